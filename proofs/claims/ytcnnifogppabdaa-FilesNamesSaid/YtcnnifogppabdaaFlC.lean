/-
  The landed disk's small functions: names, rooms, made, the fuse; New, Used, Short, Room, Fuse.
-/
import Derived.Test.YtcnnifogppabdaaFlB
import Derived.Test.YtcnnifogppabdaaRdE
namespace Go.Proofs.Ytcnnifogppabdaa
open Go.RowKit
set_option linter.unusedVariables false
set_option maxRecDepth 100000

def canR (n : Int) : Bool := decide (0 ≤ n) && decide (n ≤ 1099511627776)
set_option maxHeartbeats 400000 in
theorem canRoom_any (n : Int) (w : World) : Calls Try.prog 32 #[.int .i64 n] w fun e w' => e = .returned (.bool (canR n)) ∧ w = w' := by
  by_cases h0 : 0 ≤ n
  · by_cases h1 : n ≤ 1099511627776
    · have e : canR n = true := by simp [canR, h0, h1]
      rw [e]; clear e
      go_enter Try.func32, Try.ntmps32
      go_wp2_with fail
      go_ret
      exact ⟨rfl, rfl⟩
    · have e : canR n = false := by simp [canR, h1]
      rw [e]; clear e
      have h2 : decide (n ≤ 1099511627776) = false := by simp; omega
      have h3 : 1099511627776 < n := by omega
      go_enter Try.func32, Try.ntmps32
      go_wp2_with fail
      go_ret
      exact ⟨rfl, rfl⟩
  · have e : canR n = false := by simp [canR, h0]
    rw [e]; clear e
    have h2 : n < 0 := by omega
    go_enter Try.func32, Try.ntmps32
    go_wp2_with fail
    go_ret
    exact ⟨rfl, rfl⟩

def ptr (b : Nat) : Value := .pointer (some ⟨b, 0, none⟩)
set_option maxHeartbeats 400000 in
theorem made_any {y : Ly} {D : Dk} {u : Int} (w : World) (h : DiskU y D u w) : Calls Try.prog 33 #[.pointer (some ⟨y.p, 0, none⟩)] w fun e w' => e = .returned (.bool true) ∧ w = w' := by
  have c0 := h.cells.1
  have hm := run_neq_map_nil (P := Try.prog) w 63 9 74 (some y.m) Try.underlying63
  clear h
  go_enter Try.func33, Try.ntmps33
  go_wp2_with fail
  go_ret
  exact ⟨rfl, rfl⟩
set_option maxHeartbeats 400000 in
theorem made_nil (w : World) : Calls Try.prog 33 #[.pointer none] w fun e w' => e = .returned (.bool false) ∧ w = w' := by
  go_enter Try.func33, Try.ntmps33
  go_wp2_with fail
  go_ret
  exact ⟨rfl, rfl⟩
set_option maxHeartbeats 400000 in
theorem made_plain (w : World) (a : Addr) (c0 : w.cell? a = some (.map none)) : Calls Try.prog 33 #[.pointer (some a)] w fun e w' => e = .returned (.bool false) ∧ w = w' := by
  have hm := run_neq_map_nil (P := Try.prog) w 63 9 74 none Try.underlying63
  go_enter Try.func33, Try.ntmps33
  go_wp2_with fail
  go_ret
  exact ⟨rfl, rfl⟩

theorem onFuse {y : Ly} {D : Dk} {u : Int} {w : World} (h : DiskU y D u w) (x : Int) : DiskU y { D with fuse := x } u (w.setCell ⟨y.p, 4, none⟩ (.int .i64 x)) := h.onHead 4 _ rfl rfl
theorem onShort {y : Ly} {D : Dk} {u : Int} {w : World} (h : DiskU y D u w) (x : Int) : DiskU y { D with short := x } u (w.setCell ⟨y.p, 3, none⟩ (.int .i64 x)) := h.onHead 3 _ rfl rfl
theorem onRoom {y : Ly} {D : Dk} {u : Int} {w : World} (h : DiskU y D u w) (x : Nat) : DiskU y { D with room := x } u (w.setCell ⟨y.p, 2, none⟩ (.int .i64 x)) := h.onHead 2 _ rfl rfl
theorem onUsed {y : Ly} {D : Dk} {u : Int} {w : World} (h : DiskU y D u w) (x : Int) : DiskU y D x (w.setCell ⟨y.p, 1, none⟩ (.int .i64 x)) := h.onHead 1 _ rfl rfl

/-- The fuse is asked: 62 where it has burnt; else one less. -/
def burnE (f : Int) : Int := if f = 0 then 62 else 0
def burnF (f : Int) : Int := if f = 0 then 0 else burnt f
set_option maxHeartbeats 400000 in
theorem burn_any {y : Ly} {D : Dk} {u : Int} (w : World) (h : DiskU y D u w) (hf : -1 ≤ D.fuse ∧ D.fuse ≤ 9223372036854775807) :
    Calls Try.prog 49 #[.pointer (some ⟨y.p, 0, none⟩)] w fun e w' => e = .returned (.int .i64 (burnE D.fuse)) ∧ DiskU y { D with fuse := burnF D.fuse } u w' ∧ Only (Foot y D.S) w w' := by
  have c4 := h.cells.2.2.2.2
  have ft := h.thaw 4
  have hset := onFuse h (burnF D.fuse)
  have hfoot : Foot y D.S y.p := .inl rfl
  by_cases h1 : D.fuse = -1
  · have e1 : burnE D.fuse = 0 := by rw [h1]; rfl
    have e2 : burnF D.fuse = D.fuse := by rw [h1]; rfl
    rw [e1, e2]
    rw [h1] at c4
    clear e1 e2 hset hf h1
    have HD := Lib.hid h
    clear h
    go_enter Try.func49, Try.ntmps49
    go_wp2_with fail
    go_ret
    exact ⟨rfl, HD.out, Only.refl _ _⟩
  · by_cases h0 : D.fuse = 0
    · have e1 : burnE D.fuse = 62 := by rw [h0]; rfl
      have e2 : burnF D.fuse = D.fuse := by rw [h0]; rfl
      rw [e1, e2]
      rw [h0] at c4
      clear e1 e2 hset hf h1 h0
      have HD := Lib.hid h
      clear h
      go_enter Try.func49, Try.ntmps49
      go_wp2_with fail
      go_ret
      exact ⟨rfl, HD.out, Only.refl _ _⟩
    · have e1 : burnE D.fuse = 0 := by unfold burnE; rw [if_neg h0]
      have e2 : burnF D.fuse = D.fuse - 1 := by unfold burnF burnt; rw [if_neg h0, if_neg h1]
      rw [e2] at hset
      rw [e1, e2]
      have HS := Lib.hid hset
      clear hset h e1 e2
      obtain ⟨x, hx⟩ : ∃ x, x = D.fuse := ⟨_, rfl⟩
      rw [← hx] at c4 h0 h1 hf HS ⊢
      have f1 : (x == -1) = false := by rw [beq_eq_false_iff_ne]; exact h1
      have f2 : (x == 0) = false := by rw [beq_eq_false_iff_ne]; exact h0
      have hx0 : 1 ≤ x := by omega
      have hx1 := hf.2
      clear h0 h1 hf hx
      go_enter Try.func49, Try.ntmps49
      go_wp2_with fail
      go_ret
      exact ⟨rfl, HS.out, (Only.refl _ _).setCell (.inl hfoot) _⟩

/-- A disk without files. -/
def newD (room : Nat) : Dk := ⟨[], room, -1, -1⟩
theorem newD_ok {room : Nat} (h : room ≤ 1099511627776) : (newD room).Ok := ⟨List.Pairwise.nil, h, by simp [newD, used], by simp [newD], by simp [newD], by simp [newD]⟩
/-- What New leaves. -/
def Made (W : World) (D : Dk) (e : Ending) (w' : World) : Prop := ∃ y : Ly, e = .returned (.tuple #[.pointer (some ⟨y.p, 0, none⟩), .int .i64 0]) ∧ DiskU y D (used D.S) w' ∧ y.N = 0 ∧ (∀ k, Foot y D.S k → W.heap.size ≤ k)
set_option maxHeartbeats 400000 in
theorem New_yes (n : Nat) (w : World) (hn : n ≤ 1099511627776) : Calls Try.prog 10 #[.int .i64 n] w fun e w' => Made w (newD n) e w' ∧ Below w.heap.size w w' := by
  have C := Lib.hid (fun W => by have h := canRoom_any n W; rw [show canR n = true by simp [canR]; omega] at h; exact h)
  have hmm := @run_makeMap Try.prog
  go_enter Try.func10, Try.ntmps10
  go_wp2_with fail
  with_reducible refine Calls.mono (C.out _) ?_
  rintro e w1 ⟨rfl, rfl⟩
  go_wp2_with fail
  go_ret2
  refine ⟨⟨⟨w.heap.size + 1, w.heap.size, fun _ => 0, fun _ => .slice none 0 0, 0⟩, rfl, ?_, rfl, ?_⟩, Below.alloc (Below.alloc (Below.refl _ _) (Nat.le_refl _) _) (by simp) _⟩
  · refine ⟨List.Pairwise.nil, row_new _ (by simp), ⟨.map [], (World.ownsMap_made w Try.prog 9 ptrE).alloc _, fun n => rfl, fun n => rfl⟩, ?_, ?_, ?_⟩
    · intro f hf; cases hf
    · intro f hf; cases hf
    · intro f hf; cases hf
  · intro k hk
    rcases hk with rfl | rfl | ⟨f, hf, _⟩
    · exact Nat.le_succ _
    · exact Nat.le_refl _
    · cases hf
set_option maxHeartbeats 400000 in
theorem New_no (n : Int) (w : World) (hn : canR n = false) : Calls Try.prog 10 #[.int .i64 n] w fun e w' => e = .returned (.tuple #[.pointer none, .int .i64 1]) ∧ w = w' := by
  have C := Lib.hid (fun W => by have h := canRoom_any n W; rw [hn] at h; exact h)
  clear hn
  go_enter Try.func10, Try.ntmps10
  go_wp2_with fail
  with_reducible refine Calls.mono (C.out _) ?_
  rintro e w1 ⟨rfl, rfl⟩
  go_wp2_with fail
  go_ret2
  exact ⟨rfl, rfl⟩

set_option maxHeartbeats 400000 in
theorem Used_any {y : Ly} {D : Dk} {u : Int} (w : World) (h : DiskU y D u w) : Calls Try.prog 23 #[.pointer (some ⟨y.p, 0, none⟩)] w fun e w' => e = .returned (.int .i64 u) ∧ w = w' := by
  have C := Lib.hid (made_any w h)
  have c1 := h.cells.2.1
  clear h
  go_enter Try.func23, Try.ntmps23
  go_wp2_with fail
  with_reducible refine Calls.mono C.out ?_
  rintro e w1 ⟨rfl, rfl⟩
  go_wp2_with fail
  go_ret
  exact ⟨rfl, rfl⟩
def argE (n : Int) : Int := if n < 0 then 1 else 0
set_option maxHeartbeats 400000 in
theorem Fuse_any {y : Ly} {D : Dk} {u : Int} (n : Int) (w : World) (h : DiskU y D u w) : Calls Try.prog 24 #[.pointer (some ⟨y.p, 0, none⟩), .int .i64 n] w fun e w' => e = .returned (.int .i64 (argE n)) ∧ DiskU y { D with fuse := if n < 0 then D.fuse else n } u w' ∧ Only (Foot y D.S) w w' := by
  have C := Lib.hid (made_any w h)
  have c4 := h.cells.2.2.2.2
  have ft := h.thaw 4
  have hset := onFuse h n
  have hfoot : Foot y D.S y.p := .inl rfl
  by_cases hn : n < 0
  · rw [argE, if_pos hn, if_pos hn]
    have HD := Lib.hid h
    clear h hset
    go_enter Try.func24, Try.ntmps24
    go_wp2_with fail
    with_reducible refine Calls.mono C.out ?_
    rintro e w1 ⟨rfl, rfl⟩
    go_wp2_with fail
    go_ret
    exact ⟨rfl, HD.out, Only.refl _ _⟩
  · rw [argE, if_neg hn, if_neg hn]
    have HD := Lib.hid hset
    clear h hset
    have hn0 : 0 ≤ n := by omega
    clear hn
    go_enter Try.func24, Try.ntmps24
    go_wp2_with fail
    with_reducible refine Calls.mono C.out ?_
    rintro e w1 ⟨rfl, rfl⟩
    go_wp2_with fail
    go_ret
    exact ⟨rfl, HD.out, (Only.refl _ _).setCell (.inl hfoot) _⟩
set_option maxHeartbeats 400000 in
theorem Short_any {y : Ly} {D : Dk} {u : Int} (n : Int) (w : World) (h : DiskU y D u w) : Calls Try.prog 29 #[.pointer (some ⟨y.p, 0, none⟩), .int .i64 n] w fun e w' => e = .returned (.int .i64 (argE n)) ∧ DiskU y { D with short := if n < 0 then D.short else n } u w' ∧ Only (Foot y D.S) w w' := by
  have C := Lib.hid (made_any w h)
  have c4 := h.cells.2.2.2.1
  have ft := h.thaw 3
  have hset := onShort h n
  have hfoot : Foot y D.S y.p := .inl rfl
  by_cases hn : n < 0
  · rw [argE, if_pos hn, if_pos hn]
    have HD := Lib.hid h
    clear h hset
    go_enter Try.func29, Try.ntmps29
    go_wp2_with fail
    with_reducible refine Calls.mono C.out ?_
    rintro e w1 ⟨rfl, rfl⟩
    go_wp2_with fail
    go_ret
    exact ⟨rfl, HD.out, Only.refl _ _⟩
  · rw [argE, if_neg hn, if_neg hn]
    have HD := Lib.hid hset
    clear h hset
    have hn0 : 0 ≤ n := by omega
    clear hn
    go_enter Try.func29, Try.ntmps29
    go_wp2_with fail
    with_reducible refine Calls.mono C.out ?_
    rintro e w1 ⟨rfl, rfl⟩
    go_wp2_with fail
    go_ret
    exact ⟨rfl, HD.out, (Only.refl _ _).setCell (.inl hfoot) _⟩
set_option maxHeartbeats 400000 in
theorem Room_any {y : Ly} {D : Dk} {u : Int} (n : Int) (w : World) (h : DiskU y D u w) : Calls Try.prog 28 #[.pointer (some ⟨y.p, 0, none⟩), .int .i64 n] w fun e w' => e = .returned (.int .i64 (if canR n then 0 else 1)) ∧ DiskU y { D with room := if canR n then n.toNat else D.room } u w' ∧ Only (Foot y D.S) w w' := by
  have C := Lib.hid (made_any w h)
  have c4 := h.cells.2.2.1
  have ft := h.thaw 2
  have hfoot : Foot y D.S y.p := .inl rfl
  cases hn : canR n with
  | false =>
    have R := Lib.hid (fun W => by have h := canRoom_any n W; rw [hn] at h; exact h)
    rw [if_neg (by simp), if_neg (by simp)]
    have HD := Lib.hid h
    clear h hn
    go_enter Try.func28, Try.ntmps28
    go_wp2_with fail
    with_reducible refine Calls.mono C.out ?_
    rintro e w1 ⟨rfl, rfl⟩
    go_wp2_with fail
    with_reducible refine Calls.mono (R.out _) ?_
    rintro e w1 ⟨rfl, rfl⟩
    go_wp2_with fail
    go_ret
    exact ⟨rfl, HD.out, Only.refl _ _⟩
  | true =>
    have R := Lib.hid (fun W => by have h := canRoom_any n W; rw [hn] at h; exact h)
    rw [if_pos rfl, if_pos rfl]
    have hn0 : 0 ≤ n := by simp [canR] at hn; omega
    obtain ⟨m, rfl⟩ := Int.eq_ofNat_of_zero_le hn0
    have HD := Lib.hid (onRoom h m)
    rw [Int.toNat_natCast]
    clear h hn hn0
    go_enter Try.func28, Try.ntmps28
    go_wp2_with fail
    with_reducible refine Calls.mono C.out ?_
    rintro e w1 ⟨rfl, rfl⟩
    go_wp2_with fail
    with_reducible refine Calls.mono (R.out _) ?_
    rintro e w1 ⟨rfl, rfl⟩
    go_wp2_with fail
    go_ret
    exact ⟨rfl, HD.out, (Only.refl _ _).setCell (.inl hfoot) _⟩
end Go.Proofs.Ytcnnifogppabdaa
