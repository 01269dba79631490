/-
  Sets: as plain values, and in memory.
  Rows of slices whose data the call made; append that says where the new row lies; the document's Copy of a set.
  The landed entry's numbers and parts: appended to a slice that the call made.
  The landed entry's parts: each with its length ahead, appended to a slice that the call made.
-/
import Derived.Test.YtbeggckkgaoacaaGb
import Derived.Maps.AppendAt
import Derived.WalkArith
namespace Go.Proofs.Ytbeggckkgaoacaa
open Go.RowKit
set_option linter.unusedVariables false
set_option maxRecDepth 100000

structure St where
  n : Bs
  t : Int
  c : Int
  rk : Int
  kd : Int
  ex : Int
  z : Bs
  ds : List Bs
def sameS (a b : St) : Bool := a.n == b.n && (a.t == b.t && (a.c == b.c && (a.rk == b.rk && (a.kd == b.kd && (a.ex == b.ex && (a.z == b.z && a.ds == b.ds))))))
theorem sameS_iff {a b : St} : sameS a b = true ↔ a = b := by cases a; cases b; simp [sameS]
theorem sameS_self (a : St) : sameS a a = true := sameS_iff.2 rfl
def stL (s : St) (A : Option Addr) (c : Nat) : List Value := [.string (bs s.n), .int .i64 s.t, .int .i64 s.c, .int .i64 s.rk, .int .i64 s.kd, .int .i64 s.ex, .string (bs s.z), .slice A s.ds.length c]
def stC (s : St) (A : Option Addr) (c : Nat) : Array Value := (stL s A c).toArray
theorem st_one (s : St) (A : Option Addr) (c : Nat) : (stC s A c).all (·.oneCell') = true := by simp [stC, stL, Value.oneCell']
theorem st_size (s : St) (A : Option Addr) (c : Nat) : (stC s A c).size = 8 := rfl
theorem info_st : (Try.prog.info? 29).map (·.size) = some 8 := by kernel_rfl
def stZ : Array Value := #[.string ⟨#[]⟩, .int .i64 0, .int .i64 0, .int .i64 0, .int .i64 0, .int .i64 0, .string ⟨#[]⟩, .slice none 0 0]
theorem stZ_lit : stZ = #[.string ⟨#[]⟩, .int .i64 0, .int .i64 0, .int .i64 0, .int .i64 0, .int .i64 0, .string ⟨#[]⟩, .slice none 0 0] := rfl
theorem st_cell {w : World} {g : Nat} {s : St} {A : Option Addr} {c : Nat} (h : w.heap[g]? = some (.cells (stC s A c) 29 (0, 0))) :
    w.cell? ⟨g, 0, none⟩ = some (.string (bs s.n)) ∧ w.cell? ⟨g, 1, none⟩ = some (.int .i64 s.t) ∧ w.cell? ⟨g, 2, none⟩ = some (.int .i64 s.c) ∧ w.cell? ⟨g, 3, none⟩ = some (.int .i64 s.rk) ∧ w.cell? ⟨g, 4, none⟩ = some (.int .i64 s.kd) ∧ w.cell? ⟨g, 5, none⟩ = some (.int .i64 s.ex) ∧ w.cell? ⟨g, 6, none⟩ = some (.string (bs s.z)) ∧ w.cell? ⟨g, 7, none⟩ = some (.slice A s.ds.length c) :=
  ⟨(cell_of_row _ g 0 _ _ _ h).trans rfl, (cell_of_row _ g 1 _ _ _ h).trans rfl, (cell_of_row _ g 2 _ _ _ h).trans rfl, (cell_of_row _ g 3 _ _ _ h).trans rfl, (cell_of_row _ g 4 _ _ _ h).trans rfl, (cell_of_row _ g 5 _ _ _ h).trans rfl, (cell_of_row _ g 6 _ _ _ h).trans rfl, (cell_of_row _ g 7 _ _ _ h).trans rfl⟩
end Go.Proofs.Ytbeggckkgaoacaa
namespace Go.Proofs.Ytbeggckkgaoacaa
open Go.RowKit
set_option linter.unusedVariables false
set_option maxRecDepth 100000

set_option maxHeartbeats 2000000 in
set_option maxRecDepth 100000 in
theorem dCopy_any (s : St) (A : Option Addr) (c : Nat) (w : World) (hS : Byss w A s.ds) (hl : s.ds.length * 24 ≤ 140737488351232) (hd : ∀ x ∈ s.ds, x.length ≤ 140737488351232) :
    Calls Try.prog 16 #[.agg (stC s A c)] w fun e w' => ∃ A' c', e = .returned (.agg (stC s A' c')) ∧ Byss w' A' s.ds ∧ s.ds.length ≤ c' ∧ c' ≤ 9223372036854775807 ∧ (A' = none → c' = 0) ∧ Below w.heap.size w w' := by
  obtain ⟨i0, hi, hz0, hz1, hz2⟩ := info_parts info_slb
  obtain ⟨sn, st, sc, sr, sk, se, sz, L⟩ := s
  simp only [stC, stL] at *
  obtain ⟨n, hn⟩ : ∃ n, n = L.length := ⟨_, rfl⟩
  rw [← hn]
  rw [← hn] at hl
  have HN := Lib.hid hn
  have HD := Lib.hid hd
  clear hn hd
  have r1 := row_old (.cells #[.string ⟨#[]⟩, .int .i64 0, .int .i64 0, .int .i64 0, .int .i64 0, .int .i64 0, .string ⟨#[]⟩, .slice none 0 0] 29 (0, 0)) (row_new (w := w) (k := w.heap.size) (.cells #[.string (bs sn), .int .i64 st, .int .i64 sc, .int .i64 sr, .int .i64 sk, .int .i64 se, .string (bs sz), .slice A n c] 29 (0, 0)) rfl)
  have r2 := row_new (w := w.alloc (.cells #[.string (bs sn), .int .i64 st, .int .i64 sc, .int .i64 sr, .int .i64 sk, .int .i64 se, .string (bs sz), .slice A n c] 29 (0, 0))) (k := w.heap.size + 1) (.cells #[.string ⟨#[]⟩, .int .i64 0, .int .i64 0, .int .i64 0, .int .i64 0, .int .i64 0, .string ⟨#[]⟩, .slice none 0 0] 29 (0, 0)) (by simp)
  have b0 : Below w.heap.size w ((w.alloc (.cells #[.string (bs sn), .int .i64 st, .int .i64 sc, .int .i64 sr, .int .i64 sk, .int .i64 se, .string (bs sz), .slice A n c] 29 (0, 0))).alloc (.cells #[.string ⟨#[]⟩, .int .i64 0, .int .i64 0, .int .i64 0, .int .i64 0, .int .i64 0, .string ⟨#[]⟩, .slice none 0 0] 29 (0, 0))) := Below.alloc (Below.alloc (Below.refl _ _) (Nat.le_refl _) _) (by simp) _
  have s0 : w.heap.size + 1 < ((w.alloc (.cells #[.string (bs sn), .int .i64 st, .int .i64 sc, .int .i64 sr, .int .i64 sk, .int .i64 se, .string (bs sz), .slice A n c] 29 (0, 0))).alloc (.cells #[.string ⟨#[]⟩, .int .i64 0, .int .i64 0, .int .i64 0, .int .i64 0, .int .i64 0, .string ⟨#[]⟩, .slice none 0 0] 29 (0, 0))).heap.size := by simp
  have c7 := (cell_of_row _ _ 7 _ _ _ r1).trans (show _ = some (.slice A n c) from rfl)
  have hS0 := hS.on b0
  have R1 := Lib.hid r1
  have R2 := Lib.hid r2
  clear r1 r2 hS
  go_enter Try.func16, Try.ntmps16
  go_wp2_with fail
  generalize (w.alloc (.cells #[.string (bs sn), .int .i64 st, .int .i64 sc, .int .i64 sr, .int .i64 sk, .int .i64 se, .string (bs sz), .slice A n c] 29 (0, 0))).alloc (.cells #[.string ⟨#[]⟩, .int .i64 0, .int .i64 0, .int .i64 0, .int .i64 0, .int .i64 0, .string ⟨#[]⟩, .slice none 0 0] 29 (0, 0)) = W0 at *
  clear c7
  go_loopw [3, 9] (fun v3 v9 wr => ∃ (k : Nat) (xs : List Value), v9 = .int .i64 k ∧ k ≤ n ∧ wr.ownsRow W0.heap.size 37 1 v3 k xs ∧ RowsO wr W0.heap.size v3.ownBlock xs (L.take k) ∧ Below W0.heap.size W0 wr) (fun _ v9 _ => n - (intOf v9).toNat)
  case atStart => exact ⟨0, [], rfl, by omega, World.ownsRow_nil _ _ _ _, RowsO.nil, Below.refl _ _⟩
  case round =>
    obtain ⟨k, xs, rfl, hk, hown, hrows, hB⟩ := hrel
    by_cases hlt : k < n
    · have hlt' : (k : Int) < (n : Int) := by omega
      have kL : k < L.length := by have := HN.out; omega
      obtain ⟨g1, o1, rfl, hc1⟩ := id hS0 (by omega)
      obtain ⟨a1, d1, C1, D1, hd1, hm1, hn1⟩ := hc1 k kL
      have C1' := cell_on C1 hB
      have D1' := D1.on hB
      have hxd := HD.out L[k] (List.getElem_mem kL)
      have htk : L.take (k + 1) = L.take k ++ [L[k]] := List.take_succ_eq_append_getElem kL
      generalize L[k] = x at *
      have HT := Lib.hid htk
      have hsz := hB.size
      have D2 := Lib.hid (D1'.on (Below.alloc (Below.refl wr.heap.size wr) (Nat.le_refl _) (.cells #[] 5)))
      have E2 := Lib.hid (OwnB.empty wr wr.heap.size (Nat.le_refl _))
      have HM1 := Lib.hid hn1
      have HO := Lib.hid hown
      have HR := Lib.hid hrows
      have HB := Lib.hid hB
      have HX : Hid (0 + x.length ≤ 140737488355328) := Lib.hid (by omega)
      clear htk C1 D1 D1' hc1 hS0 hown hrows hB hn1 hd1 hm1 hxd
      go_wp2_with (first
        | (at_builtin; refine wpList_append_bys rfl _ _ rfl wr.heap.size _ [] rfl E2.out a1 d1 x.length x rfl rfl D2.out HM1.out HX.out (by simp) ?_)
        | fail)
      intro v' w1 ho1 hg1 hf1
      obtain ⟨A9, c9, rfl, Y9, Y8, Y7⟩ := ho1.bys
      clear Y9 Y8 Y7
      have g01 : wr.grownBy w1 none := grown_trans (grown_alloc wr _ none) hg1 (fun k hk => by simp [Value.ownBlock] at hk; exact .inr (by omega))
      have hown1 := HO.out.kept g01 (by cases hv : u3.ownBlock <;> simp)
      have hrows1 := HR.out.below (w' := w1) ⟨g01.os, g01.tape, g01.output, g01.size, fun k hk => g01.block k hk (by simp)⟩
      have hB1 : Below W0.heap.size W0 w1 := Below.trans HB.out (Below.mono ⟨g01.os, g01.tape, g01.output, g01.size, fun k hk => g01.block k hk (by simp)⟩ hsz)
      have hlt3 := fun g e => (HO.out.lt g e).2
      have hge1 := fun g e => (ho1.lt g e).1
      have sz1 := g01.size
      have ho1' : OwnB w1 W0.heap.size (Value.slice A9 x.length c9) x := ho1.mono hsz
      have hne : (Value.slice A9 x.length c9).ownBlock = none ∨ (Value.slice A9 x.length c9).ownBlock ≠ u3.ownBlock := by
        cases hv : (Value.slice A9 x.length c9).ownBlock with
        | none => exact .inl rfl
        | some g => exact .inr (fun e => by have h1 := hge1 g hv; have h2 := hlt3 g e.symm; omega)
      have H1 := Lib.hid hown1
      have HR1 := Lib.hid hrows1
      have HO1 := Lib.hid ho1'
      have HNE := Lib.hid hne
      have HB1 := Lib.hid hB1
      have sw1 := hB1.size
      clear ho1 hg1 hf1 g01 hown1 hrows1 hB1 hlt3 hge1 ho1' hne HO HR HB E2 D2 HX HM1
      go_wp2_with (first
        | (at_builtin; refine wpList_append_at rfl _ _ 27 rfl W0.heap.size 37 i0 (.slice none 0 0) 1 24 Try.underlying27 hi hz0 hz1 hz2 rfl (by decide) _ k xs rfl (ownsRow_below H1.out (Below.alloc (Below.refl w1.heap.size w1) (Nat.le_refl _) _) (Nat.le_refl _)) ⟨w1.heap.size, 0, none⟩ 1 1 [(Value.slice A9 x.length c9)] rfl rfl (World.news_of_block (cs := #[(Value.slice A9 x.length c9)]) (t := 37) (fr := (0, 0)) (row_new _ rfl)) (by intro u hu; rw [List.mem_singleton.1 hu]; rfl) (by unfold maxLen; omega) (by omega) (by simp; omega) ?_)
        | fail)
      intro v2 w2 hown2 hg2 hf2
      have ba := Below.alloc (Below.refl w1.heap.size w1) (Nat.le_refl _) (.cells #[(Value.slice A9 x.length c9)] 37 (0, 0))
      have hr2 := ((HR1.out.below ba).snoc (HO1.out.below ba (Nat.le_refl _)) HNE.out).step (u' := v2.ownBlock) hg2 (by simpa using hf2)
      have hlt2 := fun g e => (H1.out.lt g e).1
      have hB2 : Below W0.heap.size W0 w2 := Below.grown (Below.alloc HB1.out sw1 _) hg2 (by simp; omega) hlt2
      have HH := Lib.hid hown2
      rw [← HT.out] at hr2
      have HRR := Lib.hid hr2
      clear hown2 hg2 hf2 hr2 ba H1 HR1 HO1 HNE HB1 hlt2
      go_wp2_with fail
      go_roundw
      case rel => exact ⟨k + 1, _, by go_num, by omega, HH.out, HRR.out, hB2⟩
      case measure => simp [intOf]; omega
    · have hlt' : ¬ (k : Int) < (n : Int) := by omega
      obtain rfl : k = n := by omega
      have htk : L.take k = L := by rw [HN.out, List.take_length]
      rw [htk] at hrows
      have szr := hB.size
      have hlt3 := fun g e => (hown.lt g e).1
      obtain ⟨-, A', c', hv3, -, hc1, hc2, hc3⟩ := RowsO.byss hown hrows
      rw [← HN.out] at hv3
      subst hv3
      have r1 := (hB.block _ (by omega)).trans R1.out
      have r2 := (hB.block _ (by omega)).trans R2.out
      rw [← HN.out] at hc1
      have there : wr.cell? ⟨w.heap.size, 7, none⟩ = some (.slice A k c) := (cell_of_row _ _ 7 _ _ _ r1).trans rfl
      have fz : wr.frozen? ⟨w.heap.size, 7, none⟩ = false := frozen_of_row _ _ 7 _ _ r1
      have gs : wr.grownBy (wr.setCell ⟨w.heap.size, 7, none⟩ (.slice A' k c')) (some w.heap.size) := by
        have := grownBy_setCells w.heap.size [.slice A' k c'] 7 wr
        simpa [World.setCells] using this
      have r1' := row_set (w := wr) (g := w.heap.size) (i := 7) (.slice A' k c') r1
      rw [show (#[.string (bs sn), .int .i64 st, .int .i64 sc, .int .i64 sr, .int .i64 sk, .int .i64 se, .string (bs sz), .slice A k c] : Array Value).setIfInBounds 7 (.slice A' k c') = #[.string (bs sn), .int .i64 st, .int .i64 sc, .int .i64 sr, .int .i64 sk, .int .i64 se, .string (bs sz), .slice A' k c'] from rfl] at r1'
      have r2' := (gs.block (w.heap.size + 1) (by omega) (by simp)).trans r2
      have hown2 := hown.kept gs (by
        cases hv : (Value.slice A' k c').ownBlock with
        | none => exact .inl rfl
        | some g => exact .inr (fun e => by injection e with e; have := hlt3 g hv; omega))
      have hrows2 := hrows.far gs (fun g e => by injection e with e; omega)
      have bw0 : Below w.heap.size w wr := Below.trans b0 (hB.mono (by omega))
      have bw1 : Below w.heap.size w (wr.setCell ⟨w.heap.size, 7, none⟩ (.slice A' k c')) := Below.setCell bw0 (Nat.le_refl _) _
      have sz1 : (wr.setCell ⟨w.heap.size, 7, none⟩ (.slice A' k c')).heap.size = wr.heap.size := by simp
      obtain ⟨l1, hl1⟩ : ∃ l : Array Value, l = #[.string (bs sn), .int .i64 st, .int .i64 sc, .int .i64 sr, .int .i64 sk, .int .i64 se, .string (bs sz), .slice A' k c'] := ⟨_, rfl⟩
      have I1 : Hid ((Try.prog.info? 29).map (·.size) = some l1.size) := Lib.hid (by rw [hl1]; exact info_st)
      have O1 : Hid (l1.all (·.oneCell') = true) := Lib.hid (by rw [hl1]; simp [Value.oneCell'])
      have Z1 : Hid ((#[.string ⟨#[]⟩, .int .i64 0, .int .i64 0, .int .i64 0, .int .i64 0, .int .i64 0, .string ⟨#[]⟩, .slice none 0 0] : Array Value).size = l1.size) := Lib.hid (by rw [hl1]; rfl)
      rw [← hl1] at r1'
      have HL1 := Lib.hid hl1
      obtain ⟨W1, hW1⟩ : ∃ W1, W1 = wr.setCell ⟨w.heap.size, 7, none⟩ (.slice A' k c') := ⟨_, rfl⟩
      rw [← hW1] at r1' r2' hown2 hrows2 bw1 sz1
      have HW1 := Lib.hid hW1
      have g2 := grownBy_setRow (w := W1) (g := w.heap.size + 1) l1
      have hown3 := hown2.kept g2 (by
        cases hv : (Value.slice A' k c').ownBlock with
        | none => exact .inl rfl
        | some g => exact .inr (fun e => by injection e with e; have := hlt3 g hv; omega))
      have hrows3 := hrows2.far g2 (fun g e => by injection e with e; omega)
      have bw2 : Below w.heap.size w (W1.setRow (w.heap.size + 1) l1) := Below.setRow bw1 (by omega) _
      have HF : Hid (Byss (W1.setRow (w.heap.size + 1) l1) A' L) := Lib.hid (by
        obtain ⟨_, A2, c2, he, hby, _⟩ := RowsO.byss hown3 hrows3
        injection he with e1
        subst e1
        exact hby)
      have rF := setRow_heap _ _ _ l1 _ _ r2'
      have R1' := Lib.hid r1'
      have HC := Lib.hid hc3
      clear hown hrows hown2 hrows2 hown3 hrows3 gs g2 hlt3 hB hS0 htk r1 r2 bw0 bw1 hW1 hl1 r1' hc3
      go_wp2_with (first
        | (refine wpList_load_row rfl 29 (.tmp 1) rfl w.heap.size rfl 29 l1 (0, 0) _ (by rw [← HW1.out]; exact R1'.out) Try.underlying29 rfl I1.out ?_; rw [← HW1.out])
        | (refine wpList_store_row rfl 29 (.tmp 2) (.tmp 22) rfl (w.heap.size + 1) l1 rfl rfl 29 _ r2' I1.out (by first | exact Z1.out | exact Z1.out.symm) O1.out ?_)
        | fail)
      refine bodyPost_ret (v := .agg l1) (results_cell_row (fn := Try.f16) (p := 2) (ty := 29) (by kernel_rfl) _ _ (w.heap.size + 1) 29 l1 (0, 0) _ rfl rF Try.underlying29 rfl I1.out) rfl ?_
      exact ⟨A', c', by rw [HL1.out], HF.out, hc1, hc2, HC.out, bw2⟩
end Go.Proofs.Ytbeggckkgaoacaa
namespace Go.Proofs.Ytbeggckkgaoacaa
open Go.RowKit
set_option linter.unusedVariables false
set_option maxRecDepth 100000

/-- A number in so many bytes, the highest first. -/
def big : Nat → Nat → Bs
  | 0, _ => []
  | k + 1, n => UInt8.ofNat (n / 256 ^ k) :: big k n
def bigs (wd : Nat) (L : List Nat) : Bs := L.flatMap (big wd)
theorem big_len : ∀ (k n : Nat), (big k n).length = k
  | 0, _ => rfl
  | k + 1, n => by simp [big, big_len k n]
theorem big_drop : ∀ (wd k n : Nat), k ≤ wd → (big wd n).drop (wd - k) = big k n
  | 0, k, n, h => by
    obtain rfl : k = 0 := by omega
    rfl
  | wd + 1, k, n, h => by
    by_cases hk : k = wd + 1
    · subst hk; simp
    · rw [show wd + 1 - k = (wd - k) + 1 by omega, big, List.drop_succ_cons]
      exact big_drop wd k n (by omega)
theorem big_take (wd k n : Nat) (h : k + 1 ≤ wd) : (big wd n).take (wd - k) = (big wd n).take (wd - (k + 1)) ++ [UInt8.ofNat (n / 256 ^ k)] := by
  have hl := big_len wd n
  have hd := big_drop wd (k + 1) n h
  have hlt : wd - (k + 1) < (big wd n).length := by omega
  rw [show wd - k = (wd - (k + 1)) + 1 by omega, List.take_succ_eq_append_getElem hlt]
  congr 2
  rw [List.drop_eq_getElem_cons hlt, big] at hd
  exact (List.cons.inj hd).1
theorem bigs_len (wd : Nat) : ∀ L : List Nat, (bigs wd L).length = wd * L.length
  | [] => rfl
  | n :: L => by
    have ih := bigs_len wd L
    unfold bigs at *
    rw [List.flatMap_cons, List.length_append, big_len, ih, List.length_cons, Nat.mul_add]; omega
theorem bigs_next (wd : Nat) {L : List Nat} {k : Nat} (h : k < L.length) : bigs wd (L.take (k + 1)) = bigs wd (L.take k) ++ big wd L[k] := by
  unfold bigs
  rw [List.take_succ_eq_append_getElem h, List.flatMap_append]
  simp

/-- A slice of bytes that the call made, grown since the world W, where it was v0. -/
structure App (W : World) (base : Nat) (v0 : Value) (w : World) (v : Value) (l : Bs) : Prop where
  own : OwnB w base v l
  gr : W.grownBy w v0.ownBlock
  ap : ∀ g, v.ownBlock = some g → v0.ownBlock = some g ∨ W.heap.size ≤ g
theorem App.start {W : World} {base : Nat} {v : Value} {l : Bs} (h : OwnB W base v l) : App W base v W v l := ⟨h, grown_refl _ _, fun g h => .inl h⟩
theorem App.step {W w w' : World} {base : Nat} {v0 v v' : Value} {l l' : Bs} (h : App W base v0 w v l) (ho : OwnB w' base v' l') (hg : w.grownBy w' v.ownBlock) (hf : ∀ k, v'.ownBlock = some k → v.ownBlock = some k ∨ w.heap.size ≤ k) : App W base v0 w' v' l' :=
  ⟨ho, grown_trans h.gr hg h.ap, fun g hg' => by
    rcases hf g hg' with h1 | h1
    · exact h.ap g h1
    · exact .inr (Nat.le_trans h.gr.size h1)⟩
theorem App.call {W w w' : World} {base : Nat} {v0 v v' : Value} {l l' : Bs} (h : App W base v0 w v l) (hc : App w base v w' v' l') : App W base v0 w' v' l' := h.step hc.own hc.gr hc.ap
theorem App.alloc {W w : World} {base : Nat} {v0 v : Value} {l : Bs} (h : App W base v0 w v l) (o : Obj) : App W base v0 (w.alloc o) v l := h.step (h.own.alloc o) (grown_alloc w o _) (fun k hk => .inl hk)
theorem App.on {W w w' : World} {base : Nat} {v0 v : Value} {l : Bs} (h : App W base v0 w v l) (hB : Below w.heap.size w w') : App W base v0 w' v l := h.step (h.own.below hB (Nat.le_refl _)) (grown_of_below hB _) (fun k hk => .inl hk)
theorem App.below {W w : World} {base : Nat} {v0 v : Value} {l l0 : Bs} (h : App W base v0 w v l) (h0 : OwnB W base v0 l0) (hb : base ≤ W.heap.size) : Below base W w :=
  ⟨h.gr.os, h.gr.tape, h.gr.output, h.gr.size, fun k hk => h.gr.block k (by omega) (fun e => by have := (h0.lt k e.symm).1; omega)⟩
theorem App.block {W w : World} {base : Nat} {v0 v : Value} {l : Bs} (h : App W base v0 w v l) {g : Nat} (hl : g < W.heap.size) (hg : v0.ownBlock ≠ some g) : w.heap[g]? = W.heap[g]? := h.gr.block g hl (fun e => hg e.symm)
def AppPost (W : World) (base : Nat) (v0 : Value) (l : Bs) (e : Ending) (w' : World) : Prop := ∃ v', e = .returned v' ∧ App W base v0 w' v' l

end Go.Proofs.Ytbeggckkgaoacaa
namespace Go.Proofs.Ytbeggckkgaoacaa
open Go.RowKit
set_option linter.unusedVariables false
set_option maxRecDepth 100000

def partB (wd : Nat) (x : Bs) : Bs := big wd x.length ++ x
def partsB (wd : Nat) (L : List Bs) : Bs := L.flatMap (partB wd)
theorem partsB_next (wd : Nat) {L : List Bs} {k : Nat} (h : k < L.length) : partsB wd (L.take (k + 1)) = partsB wd (L.take k) ++ big wd (L[k]).length ++ L[k] := by
  unfold partsB
  rw [List.take_succ_eq_append_getElem h, List.flatMap_append]
  simp [partB]
theorem partsB_le (wd : Nat) (L : List Bs) (k : Nat) : (partsB wd (L.take k)).length ≤ (partsB wd L).length := by
  unfold partsB
  conv => rhs; rw [← List.take_append_drop k L, List.flatMap_append, List.length_append]
  omega
theorem bigs_one (wd n : Nat) : bigs wd [n] = big wd n := by simp [bigs]

/-- Slices of bytes that stay as they are while the block r grows. -/
def ByssK (W : World) (r : Option Nat) (A : Option Addr) (L : List Bs) : Prop := 0 < L.length → ∃ g off, A = some ⟨g, off, none⟩ ∧ ∀ j (h : j < L.length), ∃ a c, (∀ w, W.grownBy w r → w.cell? ⟨g, off + j, none⟩ = some (.slice a (L[j]).length c) ∧ Bys w a L[j]) ∧ (L[j]).length ≤ c ∧ c ≤ 9223372036854775807 ∧ (a = none → c = 0)
theorem below_of_grown {B : Nat} {W0 W w : World} {r : Option Nat} (hB : Below B W0 W) (hg : W.grownBy w r) (hr : ∀ g, r = some g → B ≤ g) (hs : B ≤ W.heap.size) : Below B W0 w :=
  Below.grown hB hg hs hr
theorem ByssK.of {W0 W : World} {r : Option Nat} {A : Option Addr} {L : List Bs} (h : Byss W0 A L) (hB : Below W0.heap.size W0 W) (hr : ∀ g, r = some g → W0.heap.size ≤ g) : ByssK W r A L := fun hn => by
  obtain ⟨g, off, hA, hc⟩ := h hn
  refine ⟨g, off, hA, fun j hj => ?_⟩
  obtain ⟨a, c, h1, h2, h3⟩ := hc j hj
  exact ⟨a, c, fun w hw => by
    have hb := below_of_grown hB hw hr hB.size
    exact ⟨cell_on h1 hb, h2.on hb⟩, h3⟩
theorem ByssK.one {W : World} {r : Option Nat} {v : Value} {x : Bs} {base : Nat} (ho : OwnB W base v x) (ho1 : ∀ g, v.ownBlock = some g → r ≠ some g) (hr : ∀ g, r = some g → g < W.heap.size) :
    ByssK (W.alloc (.cells #[v] 37)) r (some ⟨W.heap.size, 0, none⟩) [x] := fun _ => by
  refine ⟨W.heap.size, 0, rfl, fun j hj => ?_⟩
  have : j = 0 := by simp at hj; omega
  subst this
  obtain ⟨A, d, hv2, h2, h3, h4⟩ := ho.bys
  refine ⟨A, d, fun w hw => ⟨?_, ?_⟩, h3, by unfold maxLen at h4; exact h4, fun hA => ?_⟩
  · have hb := hw.block W.heap.size (by simp) (fun e => by have := hr _ e.symm; omega)
    rw [World.cell?_of_block (a := ⟨W.heap.size, 0 + 0, none⟩) hb]
    exact (cell_of_row _ _ 0 _ _ _ (row_new _ rfl)).trans (by rw [hv2]; rfl)
  · have h5 := (ho.alloc (.cells #[v] 37)).kept hw (by
      cases hvo : v.ownBlock with
      | none => exact .inl rfl
      | some g => exact .inr (fun e => ho1 g hvo e.symm))
    obtain ⟨A', d', hv3, h6, _⟩ := h5.bys
    rw [hv2] at hv3
    injection hv3 with e1
    rw [e1]
    exact h6
  · rcases ho with ⟨h, h0⟩ | ⟨g, cap, h, _⟩
    · rw [h] at hv2
      injection hv2 with _ _ e3
      exact e3.symm
    · rw [h] at hv2
      injection hv2 with e1
      rw [hA] at e1
      cases e1

end Go.Proofs.Ytbeggckkgaoacaa
