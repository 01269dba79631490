/-
  The landed entry: what can be kept (keys, times, sizes, data).
  The landed entry: data and SOAs; Can; an entry that can be.
  Two calls behind each other below one base.
  The landed entry: Can.
  Lists of texts the same: slices.EqualFunc with bytes.Equal.
  Two sets the same: entry.Same, and the document's own.
  Two sets the same: the document's own.
  The landed entry: whether an entry can be.
  A region that draws its order, parted: whatever order its first n operations come in, and behind them all a forced tail: the head is a region of its own.
  The head of a region that draws its order, walked by what each operation yields: whatever comes first, behind all of them every operation's value is what was said of it, in the world behind.
  The landed entry: Encode.
  The document's numbers (layer 7's Big).
  Step laws for a region that draws its order: append onto a plain row, of bytes and of a string; the rows that the region reads stay.
  The document's Copy of a set, and what kinds of blocks it leaves.
  A slice of bytes, with its room.
-/
import Derived.Test.YtbeggckkgaoacaaGd
import Derived.Test.YtbeggckkgaoacaaGf
import Derived.Test.YtbeggckkgaoacaaGb
import Derived.Test.YtbeggckkgaoacaaGa
import Derived.BigQuiet
import Derived.StillTail
import Derived.Laws.OwnMore
import Derived.Lib.AppendStr
import Derived.Deep.RegionHeld3
namespace Go.Proofs.Ytbeggckkgaoacaa
open Go.RowKit
set_option linter.unusedVariables false
set_option maxRecDepth 100000

def shortN (n : Int) : Bool := decide (0 ≤ n) && decide (n ≤ 65535)
def canKeyS (s : St) : Bool := can s.n && (shortN s.t && shortN s.c)
def canTimeS (s : St) : Bool := decide (1 ≤ s.rk) && (decide (s.rk ≤ 3) && (decide (0 ≤ s.ex) && decide (s.ex ≤ 1099511627776)))
def dsz (L : List Bs) : Nat := (partsB 2 L).length
def fitsS (s : St) : Bool := decide (19 + s.n.length + s.z.length + dsz s.ds ≤ 4000)
def dataS (s : St) : Bool := s.ds.all (canD s.t) && decide (0 < s.ds.length)
def soaS (s : St) : Bool := can s.z && (s.ds.length == 1 && s.ds.all (canD 6))
def kindS (s : St) : Bool := if s.kd = 0 then s.t != 0 && (s.z.isEmpty && dataS s) else if s.kd = 1 then s.t != 0 && soaS s else if s.kd = 2 then s.t == 0 && soaS s else false
def canS (s : St) : Bool := canKeyS s && (canTimeS s && (fitsS s && kindS s))
theorem ret_bool {x y : Bool} (h : x = y) : Ending.returned (.bool x) = .returned (.bool y) := by rw [h]
theorem dsz_next {L : List Bs} {k : Nat} (h : k < L.length) : dsz (L.take (k + 1)) = dsz (L.take k) + 2 + (L[k]).length := by
  unfold dsz; rw [partsB_next 2 h]; simp [big_len]; omega
theorem dsz_le (L : List Bs) (k : Nat) : dsz (L.take k) ≤ dsz L := partsB_le 2 L k
theorem all_at {f : Bs → Bool} {L : List Bs} {k : Nat} (h : k < L.length) : (L.drop k).all f = (f L[k] && (L.drop (k + 1)).all f) := by
  rw [List.drop_eq_getElem_cons h]; rfl

theorem canNumber_any (n : Int) (w : World) : Calls Try.prog 77 #[.int .i64 n] w fun e w' => e = .returned (.bool (shortN n)) ∧ w = w' := by
  by_cases h0 : 0 ≤ n
  · by_cases h1 : n ≤ 65535
    · have HR : Hid (shortN n = true) := Lib.hid (by simp [shortN, h0, h1])
      go_enter Try.func77, Try.ntmps77
      go_wp2_with fail
      go_ret
      exact ⟨by rw [HR.out]; rfl, rfl⟩
    · have HR : Hid (shortN n = false) := Lib.hid (by simp [shortN, h1])
      go_enter Try.func77, Try.ntmps77
      go_wp2_with fail
      go_ret
      exact ⟨by rw [HR.out]; rfl, rfl⟩
  · have HR : Hid (shortN n = false) := Lib.hid (by simp [shortN, h0])
    go_enter Try.func77, Try.ntmps77
    go_wp2_with fail
    go_ret
    exact ⟨by rw [HR.out]; rfl, rfl⟩

set_option maxHeartbeats 1000000 in
theorem canKey_any (s : St) (A : Option Addr) (c : Nat) (w : World) : Calls Try.prog 59 #[.agg (stC s A c)] w fun e w' => e = .returned (.bool (canKeyS s)) ∧ Below w.heap.size w w' := by
  have r1 := row_new (w := w) (k := w.heap.size) (.cells (stC s A c) 29 (0, 0)) rfl
  have b0 : Below w.heap.size w (w.alloc (.cells (stC s A c) 29 (0, 0))) := Below.alloc (Below.refl _ _) (Nat.le_refl _) _
  obtain ⟨c0, c1, c2, c3, c4, c5, c6, c7⟩ := st_cell r1
  have E1 := Lib.hid (fun W => Can_any s.n W)
  have E2 := Lib.hid (fun W => canNumber_any s.t W)
  have E3 := Lib.hid (fun W => canNumber_any s.c W)
  have HR : Hid (canKeyS s = (can s.n && (shortN s.t && shortN s.c))) := Lib.hid rfl
  generalize canKeyS s = R at *
  generalize can s.n = k1 at *
  generalize shortN s.t = k2 at *
  generalize shortN s.c = k3 at *
  clear r1 c3 c4 c5 c6 c7
  generalize stC s A c = C at *
  go_enter Try.func59, Try.ntmps59
  go_wp2_with fail
  generalize w.alloc (.cells C 29) = W0 at *
  refine (E1.out _).mono ?_
  rintro e w1 ⟨rfl, b1⟩
  replace c1 := cell_on c1 b1
  replace c2 := cell_on c2 b1
  have bb := Below.trans b0 (b1.mono b0.size)
  clear b1 b0 E1 c0
  cases k1 with
  | false =>
    go_wp2_with fail
    go_ret
    exact ⟨by rw [HR.out]; rfl, bb⟩
  | true =>
    go_wp2_with fail
    refine (E2.out _).mono ?_
    rintro e w2 ⟨rfl, rfl⟩
    cases k2 with
    | false =>
      go_wp2_with fail
      go_ret
      exact ⟨by rw [HR.out]; rfl, bb⟩
    | true =>
      go_wp2_with fail
      refine (E3.out _).mono ?_
      rintro e w2 ⟨rfl, rfl⟩
      go_wp2_with fail
      go_ret
      exact ⟨by rw [HR.out]; rfl, bb⟩

set_option maxHeartbeats 1000000 in
theorem canTime_any (s : St) (A : Option Addr) (c : Nat) (w : World) : Calls Try.prog 60 #[.agg (stC s A c)] w fun e w' => e = .returned (.bool (canTimeS s)) ∧ Below w.heap.size w w' := by
  have r1 := row_new (w := w) (k := w.heap.size) (.cells (stC s A c) 29 (0, 0)) rfl
  have b0 : Below w.heap.size w (w.alloc (.cells (stC s A c) 29 (0, 0))) := Below.alloc (Below.refl _ _) (Nat.le_refl _) _
  obtain ⟨c0, c1, c2, c3, c4, c5, c6, c7⟩ := st_cell r1
  have HR : Hid (canTimeS s = (decide (1 ≤ s.rk) && (decide (s.rk ≤ 3) && (decide (0 ≤ s.ex) && decide (s.ex ≤ 1099511627776))))) := Lib.hid rfl
  generalize canTimeS s = R at *
  clear r1 c0 c1 c2 c4 c6 c7
  generalize stC s A c = C at *
  generalize s.rk = rk at *
  generalize s.ex = ex at *
  by_cases h0 : 1 ≤ rk
  case neg =>
    have HF : Hid (R = false) := Lib.hid (by rw [HR.out]; simp [h0])
    clear HR
    go_enter Try.func60, Try.ntmps60
    go_wp2_with fail
    go_ret
    exact ⟨by rw [HF.out]; rfl, b0⟩
  by_cases h1 : rk ≤ 3
  case neg =>
    have HF : Hid (R = false) := Lib.hid (by rw [HR.out]; simp [h1])
    clear HR
    go_enter Try.func60, Try.ntmps60
    go_wp2_with fail
    go_ret
    exact ⟨by rw [HF.out]; rfl, b0⟩
  by_cases h2 : 0 ≤ ex
  case neg =>
    have HF : Hid (R = false) := Lib.hid (by rw [HR.out]; simp [h2])
    clear HR
    go_enter Try.func60, Try.ntmps60
    go_wp2_with fail
    go_ret
    exact ⟨by rw [HF.out]; rfl, b0⟩
  by_cases h3 : ex ≤ 1099511627776
  case neg =>
    have HF : Hid (R = false) := Lib.hid (by rw [HR.out]; simp [h3])
    clear HR
    go_enter Try.func60, Try.ntmps60
    go_wp2_with fail
    go_ret
    exact ⟨by rw [HF.out]; rfl, b0⟩
  have HF : Hid (R = true) := Lib.hid (by rw [HR.out]; simp [h0, h1, h2, h3])
  clear HR
  go_enter Try.func60, Try.ntmps60
  go_wp2_with fail
  go_ret
  exact ⟨by rw [HF.out]; rfl, b0⟩

set_option maxHeartbeats 1000000 in
theorem fits_any (s : St) (A : Option Addr) (c : Nat) (w : World) (hS : Byss w A s.ds) (hn : s.n.length ≤ 140737488355328) (hz : s.z.length ≤ 140737488355328) (hd : ∀ x ∈ s.ds, x.length ≤ 140737488355328) (hm : s.ds.length ≤ 9223372036854775806) : Calls Try.prog 61 #[.agg (stC s A c)] w fun e w' => e = .returned (.bool (fitsS s)) ∧ Below w.heap.size w w' := by
  have r1 := row_new (w := w) (k := w.heap.size) (.cells (stC s A c) 29 (0, 0)) rfl
  have b0 : Below w.heap.size w (w.alloc (.cells (stC s A c) 29 (0, 0))) := Below.alloc (Below.refl _ _) (Nat.le_refl _) _
  obtain ⟨c0, c1, c2, c3, c4, c5, c6, c7⟩ := st_cell r1
  have HR : Hid (fitsS s = decide (19 + s.n.length + s.z.length + dsz s.ds ≤ 4000)) := Lib.hid rfl
  have z0 := bs_size s.n
  have z6 := bs_size s.z
  have hS0 := hS.on b0
  generalize fitsS s = R at *
  clear r1 c1 c2 c3 c4 c5 hS
  generalize stC s A c = C at *
  generalize s.n = sn at *
  generalize s.z = sz at *
  generalize s.ds = L at *
  obtain ⟨n, hn'⟩ : ∃ n, n = L.length := ⟨_, rfl⟩
  rw [← hn'] at c7 hm
  have HN := Lib.hid hn'
  obtain ⟨a, ha⟩ : ∃ a, a = sn.length := ⟨_, rfl⟩
  obtain ⟨b, hb⟩ : ∃ a, a = sz.length := ⟨_, rfl⟩
  rw [← ha] at HR z0 hn
  rw [← hb] at HR z6 hz
  have HD := Lib.hid hd
  have H0 : Hid (dsz (L.take 0) = 0) := Lib.hid (by simp [dsz, partsB])
  have HL := Lib.hid (dsz_le L)
  clear hn' ha hb hd
  go_enter Try.func61, Try.ntmps61
  go_wp2_with fail
  generalize w.alloc (.cells C 29) = W0 at *
  clear c0 c6 c7 z0 z6
  go_loop [3, 17] (fun v i => ∃ (k T : Nat), i = .int .i64 k ∧ k ≤ n ∧ Hid (dsz (L.take k) = T) ∧ v = .int .i64 (3981 - a - b - T) ∧ (k = 0 ∧ T = 0 ∨ (a : Int) + b + T ≤ 3981)) (fun _ i => n - (intOf i).toNat)
  case atStart => exact ⟨0, 0, rfl, by omega, H0, by simp, .inl ⟨rfl, rfl⟩⟩
  case round =>
    obtain ⟨k, T, rfl, hk, hT, rfl, hc⟩ := hrel
    clear H0
    have hbd : (T : Int) ≤ 4000 := by omega
    by_cases hlt : k < n
    · have hlt' : (k : Int) < (n : Int) := by omega
      have kL : k < L.length := by have := HN.out; omega
      obtain ⟨g1, o1, rfl, hc1⟩ := id hS0 (by omega)
      obtain ⟨a1, d1, C1, _⟩ := hc1 k kL
      have hxd := HD.out L[k] (List.getElem_mem kL)
      have hnx := dsz_next kL
      have hle := HL.out (k + 1)
      generalize L[k] = x at *
      rw [hT.out] at hnx
      rw [hnx] at hle
      obtain ⟨q, hq⟩ : ∃ q, q = x.length := ⟨_, rfl⟩
      rw [← hq] at C1 hxd hnx hle
      by_cases hneg : (3981 : Int) - a - b - T - (2 + q) < 0
      · have HF : Hid (R = false) := Lib.hid (by rw [HR.out]; simp; omega)
        clear HR hnx hle hq hS0 hc1 hc
        go_wp2_with fail
        go_ret
        exact ⟨by rw [HF.out]; rfl, b0⟩
      · have HX := Lib.hid hnx
        clear hnx hle hq hS0 hc1 hc
        go_wp2_with fail
        go_round
        case rel => exact ⟨k + 1, T + 2 + q, by go_num, by omega, HX, by congr 1; omega, .inr (by omega)⟩
        case measure => simp [intOf]; omega
    · have hlt' : ¬ (k : Int) < (n : Int) := by omega
      obtain rfl : k = n := by omega
      have hTT : dsz L = T := by have := hT.out; rwa [HN.out, List.take_length] at this
      rw [hTT] at HR
      clear hT hTT hS0 HL HD
      by_cases hneg : (3981 : Int) - a - b - T < 0
      · have HF : Hid (R = false) := Lib.hid (by rw [HR.out]; simp; omega)
        clear HR hc
        go_wp2_with fail
        go_ret
        exact ⟨by rw [HF.out]; exact ret_bool (by simp; omega), b0⟩
      · have HF : Hid (R = true) := Lib.hid (by rw [HR.out]; simp; omega)
        clear HR hc
        go_wp2_with fail
        go_ret
        exact ⟨by rw [HF.out]; exact ret_bool (by simp; omega), b0⟩
end Go.Proofs.Ytbeggckkgaoacaa
namespace Go.Proofs.Ytbeggckkgaoacaa
open Go.RowKit
set_option linter.unusedVariables false
set_option maxRecDepth 100000

set_option maxHeartbeats 1000000 in
theorem areDatas_any (s : St) (A : Option Addr) (c : Nat) (w : World) (hS : Byss w A s.ds) (hm : s.ds.length ≤ 9223372036854775806) : Calls Try.prog 62 #[.agg (stC s A c)] w fun e w' => e = .returned (.bool (dataS s)) ∧ Below w.heap.size w w' := by
  have r1 := row_new (w := w) (k := w.heap.size) (.cells (stC s A c) 29 (0, 0)) rfl
  have b0 : Below w.heap.size w (w.alloc (.cells (stC s A c) 29 (0, 0))) := Below.alloc (Below.refl _ _) (Nat.le_refl _) _
  obtain ⟨c0, c1, c2, c3, c4, c5, c6, c7⟩ := st_cell r1
  have HR : Hid (dataS s = (s.ds.all (canD s.t) && decide (0 < s.ds.length))) := Lib.hid rfl
  have hS0 := Lib.hid (hS.on b0)
  generalize dataS s = R at *
  clear r1 c0 c2 c3 c4 c5 c6 hS
  generalize stC s A c = C at *
  generalize s.t = t at *
  generalize s.ds = L at *
  obtain ⟨n, hn'⟩ : ∃ n, n = L.length := ⟨_, rfl⟩
  rw [← hn'] at c7 hm HR
  have HN := Lib.hid hn'
  have H0 : Hid (L.all (canD t) = (L.drop 0).all (canD t)) := Lib.hid rfl
  clear hn'
  go_enter Try.func62, Try.ntmps62
  go_wp2_with fail
  generalize w.alloc (.cells C 29) = W0 at *
  go_loopw [8] (fun i wr => ∃ k : Nat, i = .int .i64 k ∧ k ≤ n ∧ Below W0.heap.size W0 wr ∧ Hid (L.all (canD t) = (L.drop k).all (canD t))) (fun i _ => n - (intOf i).toNat)
  case atStart => exact ⟨0, rfl, by omega, Below.refl _ _, H0⟩
  case round =>
    obtain ⟨k, rfl, hk, hB, hT⟩ := hrel
    clear H0
    replace c1 := cell_on c1 hB
    replace c7 := cell_on c7 hB
    by_cases hlt : k < n
    · have hlt' : (k : Int) < (n : Int) := by omega
      have kL : k < L.length := by have := HN.out; omega
      obtain ⟨g1, o1, rfl, hc1⟩ := hS0.out (by omega)
      obtain ⟨a1, d1, C1, D1, h1, h2, _⟩ := hc1 k kL
      have C1' := cell_on C1 hB
      have hx := hT.out.trans (all_at kL)
      have E := Lib.hid (dCan_any t a1 L[k] d1 wr (D1.on hB) h1 h2)
      generalize L[k] = x at *
      generalize canD t x = r at *
      have HX := Lib.hid hx
      have bw := Below.trans b0 (hB.mono b0.size)
      clear hc1 C1 D1 h1 h2 hx hT
      go_wp2_with fail
      refine E.out.mono ?_
      rintro e w1 ⟨rfl, b1⟩
      have bb := Below.trans bw (b1.mono bw.size)
      have b2 := Below.trans hB (b1.mono hB.size)
      clear E b1
      cases r with
      | false =>
        have HF : Hid (R = false) := Lib.hid (by rw [HR.out, HX.out]; rfl)
        clear HR HX
        go_wp2_with fail
        go_ret
        exact ⟨by rw [HF.out]; rfl, bb⟩
      | true =>
        have HX2 : Hid (L.all (canD t) = (L.drop (k + 1)).all (canD t)) := Lib.hid (by rw [HX.out]; rfl)
        clear HX
        go_wp2_with fail
        go_roundw
        case rel => exact ⟨k + 1, by go_num, by omega, b2, HX2⟩
        case measure => simp [intOf]; omega
    · have hlt' : ¬ (k : Int) < (n : Int) := by omega
      obtain rfl : k = n := by omega
      have hall : L.all (canD t) = true := by rw [hT.out, List.drop_eq_nil_of_le (by have := HN.out; omega)]; rfl
      rw [hall, Bool.true_and] at HR
      have bw := Below.trans b0 (hB.mono b0.size)
      clear hT hall hS0
      go_wp2_with fail
      go_ret
      exact ⟨by rw [HR.out]; exact ret_bool (by simp), bw⟩

theorem soaS_of {s : St} {x : Bs} (h : s.ds = [x]) : soaS s = (can s.z && canD 6 x) := by simp [soaS, h]
theorem soaS_len {s : St} (h : s.ds.length ≠ 1) : soaS s = false := by simp [soaS, h]
set_option maxHeartbeats 1000000 in
theorem hasSOA_any (s : St) (A : Option Addr) (c : Nat) (w : World) (hS : Byss w A s.ds) (hm : s.ds.length ≤ 9223372036854775806) : Calls Try.prog 63 #[.agg (stC s A c)] w fun e w' => e = .returned (.bool (soaS s)) ∧ Below w.heap.size w w' := by
  have r1 := row_new (w := w) (k := w.heap.size) (.cells (stC s A c) 29 (0, 0)) rfl
  have b0 : Below w.heap.size w (w.alloc (.cells (stC s A c) 29 (0, 0))) := Below.alloc (Below.refl _ _) (Nat.le_refl _) _
  obtain ⟨c0, c1, c2, c3, c4, c5, c6, c7⟩ := st_cell r1
  have hS0 := Lib.hid (hS.on b0)
  have E1 := Lib.hid (fun W => Can_any s.z W)
  have HR : Hid (can s.z = false → soaS s = false) := Lib.hid (fun h => by simp [soaS, h])
  have HL := Lib.hid (@soaS_len s)
  have HO := Lib.hid (fun x h => @soaS_of s x h)
  generalize soaS s = R at *
  clear r1 c0 c1 c2 c3 c4 c5 hS
  generalize stC s A c = C at *
  generalize s.z = z at *
  generalize s.ds = L at *
  go_enter Try.func63, Try.ntmps63
  go_wp2_with fail
  generalize w.alloc (.cells C 29) = W0 at *
  refine (E1.out _).mono ?_
  rintro e w1 ⟨rfl, b1⟩
  replace c7 := cell_on c7 b1
  have bb := Below.trans b0 (b1.mono b0.size)
  have hS1 := Lib.hid (hS0.out.on b1)
  clear b1 b0 E1 hS0 c6
  cases hk : can z with
  | false =>
    have HF := Lib.hid (HR.out hk)
    clear hk HR HL HO
    go_wp2_with fail
    go_ret
    exact ⟨by rw [HF.out]; rfl, bb⟩
  | true =>
    have HK := Lib.hid hk
    clear hk HR
    by_cases hl : L.length = 1
    · match L, hl with
      | [x], _ =>
      obtain ⟨g1, o1, rfl, hc1⟩ := hS1.out (by simp)
      obtain ⟨a1, d1, C1, D1, h1, h2, _⟩ := hc1 0 (by simp)
      simp only [List.getElem_cons_zero] at C1 D1 h1
      have E := Lib.hid (dCan_any 6 a1 x d1 w1 D1 h1 h2)
      have HX := HO.out x rfl
      rw [HK.out, Bool.true_and] at HX
      have HXH := Lib.hid HX
      rw [Nat.add_zero] at C1
      generalize canD 6 x = r at *
      simp only [List.length_cons, List.length_nil] at c7
      clear hc1 D1 h1 h2 HX HO HL hS1 hl hm
      go_wp2_with fail
      refine E.out.mono ?_
      rintro e w2 ⟨rfl, b2⟩
      have bb2 := Below.trans bb (b2.mono bb.size)
      go_wp2_with fail
      go_ret
      exact ⟨by rw [HXH.out]; rfl, bb2⟩
    · have HF := Lib.hid (HL.out hl)
      have hl' : ((L.length : Int) == 1) = false := by rw [beq_eq_false_iff_ne]; omega
      clear HL HO hl hS1
      generalize L.length = n at *
      go_wp2_with fail
      go_ret
      exact ⟨by rw [HF.out]; rfl, bb⟩
end Go.Proofs.Ytbeggckkgaoacaa
namespace Go.Proofs.Ytbeggckkgaoacaa
open Go.RowKit
theorem Below.next {B : Nat} {w w1 w2 : World} (h : Below B w w1) (hs : B ≤ w1.heap.size) (k : Below w1.heap.size w1 w2) : Below B w w2 ∧ B ≤ w2.heap.size := ⟨Below.trans h (k.mono hs), Nat.le_trans hs k.size⟩
end Go.Proofs.Ytbeggckkgaoacaa
namespace Go.Proofs.Ytbeggckkgaoacaa
open Go.RowKit
set_option linter.unusedVariables false
set_option maxRecDepth 100000

/-- A set loaded whole. -/
noncomputable def loadSt (v : Value) (w : World) : Result Next := ((Instr.loadAt 29 v).run Try.prog w).andThen fun a w' => .ok (.value a) w'
theorem exec_loadSt (ev : Operand → Value) (d : Option Tmp) (x : Operand) (t : TypeId) (p : String) (f : Array Edge) (gd : Option (Nat × Bool)) (w : World) : (execOp ev { dst := d, op := .load 29 x, type := t, pos := p, after := f, guard := gd }).run Try.prog w = loadSt (ev x) w := by
  unfold execOp loadSt
  simp only [Sem.run_bind, Sem.run_pure]
theorem loadSt_row {w1 : World} {g : Nat} {C : Array Value} (h : w1.heap[g]? = some (.cells C 29 (0, 0))) (hC : (Try.prog.info? 29).map (·.size) = some C.size) : loadSt (.pointer (some ⟨g, 0, none⟩)) w1 = .ok (.value (.agg C)) w1 := by
  unfold loadSt
  simp only [Instr.loadAt, Instr.sureAddr, Sem.run_bind, Sem.run_pure, Result.andThen_ok, run_loadVar_row w1 g 29 29 C (0, 0) _ h Try.underlying29 rfl hC]
theorem loadSt_st {w1 : World} {g : Nat} {s : St} {A : Option Addr} {c : Nat} (h : w1.heap[g]? = some (.cells (stC s A c) 29 (0, 0))) : loadSt (.pointer (some ⟨g, 0, none⟩)) w1 = .ok (.value (.agg (stC s A c))) w1 := loadSt_row h info_st
theorem loadSt_mid {w1 : World} {g o : Nat} {s : St} {A : Option Addr} {c : Nat} (h : w1.rangeAt g o (stL s A c)) : loadSt (.pointer (some ⟨g, o, none⟩)) w1 = .ok (.value (.agg (stC s A c))) w1 := by
  unfold loadSt
  rw [run_loadAt_mid w1 g o 29 (stL s A c) _ h Try.underlying29 rfl info_st]
  rfl
attribute [local go_sem ↓] exec_loadSt

structure Sized (s : St) : Prop where
  n : s.n.length ≤ 140737488355328
  z : s.z.length ≤ 140737488355328
  d : ∀ x ∈ s.ds, x.length ≤ 140737488355328
  l : s.ds.length ≤ 9223372036854775806
theorem kindS_0 {s : St} (h : s.kd = 0) : kindS s = (s.t != 0 && (s.z.isEmpty && dataS s)) := by unfold kindS; rw [if_pos h]
theorem kindS_1 {s : St} (h : s.kd = 1) : kindS s = (s.t != 0 && soaS s) := by unfold kindS; rw [if_neg (by omega), if_pos h]
theorem kindS_2 {s : St} (h : s.kd = 2) : kindS s = (s.t == 0 && soaS s) := by unfold kindS; rw [if_neg (by omega), if_neg (by omega), if_pos h]
theorem kindS_n {s : St} (h0 : s.kd ≠ 0) (h1 : s.kd ≠ 1) (h2 : s.kd ≠ 2) : kindS s = false := by unfold kindS; rw [if_neg h0, if_neg h1, if_neg h2]

set_option maxHeartbeats 4000000 in
set_option maxRecDepth 100000 in
theorem Can8_any (s : St) (A : Option Addr) (c : Nat) (w : World) (hS : Byss w A s.ds) (hz : Sized s) : Calls Try.prog 35 #[.agg (stC s A c)] w fun e w' => e = .returned (.bool (canS s)) ∧ Below w.heap.size w w' := by
  have r1 := row_new (w := w) (k := w.heap.size) (.cells (stC s A c) 29 (0, 0)) rfl
  have b0 : Below w.heap.size w (w.alloc (.cells (stC s A c) 29 (0, 0))) := Below.alloc (Below.refl _ _) (Nat.le_refl _) _
  have hS0 := Lib.hid (hS.on b0)
  have E1 := Lib.hid (fun W => canKey_any s A c W)
  have E2 := Lib.hid (fun W => canTime_any s A c W)
  have E3 := Lib.hid (fun W hW => fits_any s A c W hW hz.n hz.z hz.d hz.l)
  have E4 := Lib.hid (fun W hW => areDatas_any s A c W hW hz.l)
  have E5 := Lib.hid (fun W hW => hasSOA_any s A c W hW hz.l)
  have HR : Hid (canS s = (canKeyS s && (canTimeS s && (fitsS s && kindS s)))) := Lib.hid rfl
  have K0 := Lib.hid (@kindS_0 s)
  have K1 := Lib.hid (@kindS_1 s)
  have K2 := Lib.hid (@kindS_2 s)
  have Kn := Lib.hid (@kindS_n s)
  have HC := Lib.hid (fun (W : World) (h : W.heap[w.heap.size]? = some (.cells (stC s A c) 29 (0, 0))) => st_cell h)
  have I := Lib.hid (show (Try.prog.info? 29).map (·.size) = some (stC s A c).size from info_st)
  have L1 := loadSt_row r1 I.out
  generalize canS s = R at *
  generalize canKeyS s = k1 at *
  generalize canTimeS s = k2 at *
  generalize fitsS s = k3 at *
  generalize kindS s = k4 at *
  generalize dataS s = k5 at *
  generalize soaS s = k6 at *
  generalize s.z = z at *
  generalize s.kd = kd at *
  generalize s.t = t at *
  generalize stC s A c = C at *
  have lt1 : w.heap.size < (w.alloc (.cells C 29)).heap.size := by simp
  clear hS hz
  go_enter Try.func35, Try.ntmps35
  go_wp2_with fail
  generalize w.alloc (.cells C 29) = W0 at *
  refine (E1.out _).mono ?_
  rintro e w1 ⟨rfl, q1⟩
  replace r1 := (q1.block _ lt1).trans r1
  replace lt1 := Nat.lt_of_lt_of_le lt1 q1.size
  replace hS0 := Lib.hid (hS0.out.on q1)
  obtain ⟨bb, s1⟩ := Below.next b0 b0.size q1
  clear q1 b0 E1 L1
  have L1 := loadSt_row r1 I.out
  cases k1 with
  | false =>
    have HF : Hid (R = false) := Lib.hid (by rw [HR.out]; rfl)
    clear HR
    go_wp2_with fail
    go_ret
    exact ⟨by rw [HF.out]; rfl, bb⟩
  | true =>
  go_wp2_with fail
  refine (E2.out _).mono ?_
  rintro e w2 ⟨rfl, q1⟩
  replace r1 := (q1.block _ lt1).trans r1
  replace lt1 := Nat.lt_of_lt_of_le lt1 q1.size
  replace hS0 := Lib.hid (hS0.out.on q1)
  obtain ⟨bb, s1⟩ := Below.next bb s1 q1
  clear q1 E2 L1
  have L1 := loadSt_row r1 I.out
  cases k2 with
  | false =>
    have HF : Hid (R = false) := Lib.hid (by rw [HR.out]; rfl)
    clear HR
    go_wp2_with fail
    go_ret
    exact ⟨by rw [HF.out]; rfl, bb⟩
  | true =>
  go_wp2_with fail
  refine (E3.out _ hS0.out).mono ?_
  rintro e w3 ⟨rfl, q1⟩
  replace r1 := (q1.block _ lt1).trans r1
  replace lt1 := Nat.lt_of_lt_of_le lt1 q1.size
  replace hS0 := Lib.hid (hS0.out.on q1)
  obtain ⟨bb, s1⟩ := Below.next bb s1 q1
  clear q1 E3 L1
  have L1 := loadSt_row r1 I.out
  cases k3 with
  | false =>
    have HF : Hid (R = false) := Lib.hid (by rw [HR.out]; rfl)
    clear HR
    go_wp2_with fail
    go_ret
    exact ⟨by rw [HF.out]; rfl, bb⟩
  | true =>
  obtain ⟨c0, c1, c2, c3, c4, c5, c6, c7⟩ := HC.out _ r1
  have HRR : Hid (R = k4) := Lib.hid (by rw [HR.out]; rfl)
  clear HR c0 c2 c3 c5 c7 HC
  by_cases h0 : kd = 0
  · subst h0
    have HK := Lib.hid (K0.out rfl)
    clear K0 K1 K2 Kn E5
    by_cases ht : t = 0
    · have hb : (t != 0) = false := by simp [ht]
      have HF : Hid (R = false) := Lib.hid (by rw [HRR.out, HK.out, hb]; rfl)
      clear HRR HK ht
      go_wp2_with fail
      go_ret
      exact ⟨by rw [HF.out]; rfl, bb⟩
    have hb : (t != 0) = true := by simp [ht]
    rw [hb, Bool.true_and] at HK
    clear ht
    cases z with
    | cons b z =>
      have HF : Hid (R = false) := Lib.hid (by rw [HRR.out, HK.out]; rfl)
      clear HRR HK
      go_wp2_with fail
      go_ret
      exact ⟨by rw [HF.out]; rfl, bb⟩
    | nil =>
    have HF : Hid (R = k5) := Lib.hid (by rw [HRR.out, HK.out]; rfl)
    clear HRR HK
    go_wp2_with fail
    refine (E4.out _ hS0.out).mono ?_
    rintro e w4 ⟨rfl, q1⟩
    obtain ⟨bb, s1⟩ := Below.next bb s1 q1
    go_wp2_with fail
    go_ret
    exact ⟨by rw [HF.out]; rfl, bb⟩
  by_cases h1 : kd = 1
  · subst h1
    have HK := Lib.hid (K1.out rfl)
    clear K0 K1 K2 Kn E4 h0
    by_cases ht : t = 0
    · have hb : (t != 0) = false := by simp [ht]
      have HF : Hid (R = false) := Lib.hid (by rw [HRR.out, HK.out, hb]; rfl)
      clear HRR HK ht
      go_wp2_with fail
      go_ret
      exact ⟨by rw [HF.out]; rfl, bb⟩
    have hb : (t != 0) = true := by simp [ht]
    have HF : Hid (R = k6) := Lib.hid (by rw [HRR.out, HK.out, hb]; rfl)
    clear HRR HK ht
    go_wp2_with fail
    refine (E5.out _ hS0.out).mono ?_
    rintro e w4 ⟨rfl, q1⟩
    obtain ⟨bb, s1⟩ := Below.next bb s1 q1
    go_wp2_with fail
    go_ret
    exact ⟨by rw [HF.out]; rfl, bb⟩
  by_cases h2 : kd = 2
  · subst h2
    have HK := Lib.hid (K2.out rfl)
    clear K0 K1 K2 Kn E4 h0 h1
    by_cases ht : t = 0
    · have hb : (t == 0) = true := by simp [ht]
      have HF : Hid (R = k6) := Lib.hid (by rw [HRR.out, HK.out, hb]; rfl)
      clear HRR HK ht
      go_wp2_with fail
      refine (E5.out _ hS0.out).mono ?_
      rintro e w4 ⟨rfl, q1⟩
      obtain ⟨bb, s1⟩ := Below.next bb s1 q1
      go_wp2_with fail
      go_ret
      exact ⟨by rw [HF.out]; rfl, bb⟩
    · have hb : (t == 0) = false := by simp [ht]
      have HF : Hid (R = false) := Lib.hid (by rw [HRR.out, HK.out, hb]; rfl)
      clear HRR HK ht
      go_wp2_with fail
      go_ret
      exact ⟨by rw [HF.out]; rfl, bb⟩
  have HK := Lib.hid (Kn.out h0 h1 h2)
  have e0 : (kd == 0) = false := by simp [h0]
  have e1 : (kd == 1) = false := by simp [h1]
  have e2 : (kd == 2) = false := by simp [h2]
  have HF : Hid (R = false) := Lib.hid (by rw [HRR.out, HK.out])
  clear HRR HK K0 K1 K2 Kn E4 E5 h0 h1 h2
  go_wp2_with fail
  go_ret
  exact ⟨by rw [HF.out]; rfl, bb⟩
end Go.Proofs.Ytbeggckkgaoacaa
namespace Go.Proofs.Ytbeggckkgaoacaa
open Go.RowKit
set_option linter.unusedVariables false
set_option maxRecDepth 100000

set_option maxHeartbeats 400000 in
set_option maxRecDepth 100000 in
theorem EqualFB_any (A1 A2 : Option Addr) (L1 L2 : List Bs) (c1 c2 : Nat) (w : World) (h1 : Byss w A1 L1) (h2 : Byss w A2 L2) (hm : L1.length ≤ 9223372036854775807) :
    Calls Try.prog 53 #[.slice A1 L1.length c1, .slice A2 L2.length c2, .func (.func 52) #[] #[]] w fun e w' => e = .returned (.bool (L1 == L2)) ∧ Below w.heap.size w w' := by
  have hE := fun (args : Array Value) (w : World) => run_enter Try.func52 (by kernel_rfl) (by kernel_rfl) args w
  by_cases hne : L1.length = L2.length
  · have HT : Hid ((L1 == L2) = (L1.drop 0 == L2.drop 0)) := Lib.hid rfl
    obtain ⟨n, hn⟩ : ∃ n, n = L1.length := ⟨_, rfl⟩
    rw [← hne, ← hn]
    rw [← hn] at hm
    have E1 := Lib.hid hn
    have E2 := Lib.hid (hn.trans hne)
    clear hn hne
    go_enter Try.func53, Try.ntmps53
    go_wp2_with fail
    go_loopw [17] (fun v wr => ∃ k : Nat, v = .int .i64 k ∧ k ≤ n ∧ Below w.heap.size w wr ∧ Hid ((L1 == L2) = (L1.drop k == L2.drop k))) (fun v _ => n - (intOf v).toNat)
    case atStart => exact ⟨0, rfl, by omega, Below.refl _ _, HT⟩
    case round =>
      clear HT
      obtain ⟨k, rfl, hk, hB, hT⟩ := hrel
      by_cases hlt : k < n
      · have e1 := E1.out
        have e2 := E2.out
        obtain ⟨g1, o1, rfl, hc1⟩ := id h1 (by omega)
        obtain ⟨g2, o2, rfl, hc2⟩ := id h2 (by omega)
        have k1 : k < L1.length := by omega
        have k2 : k < L2.length := by omega
        obtain ⟨a1, d1, R1, D1, y1⟩ := hc1 k k1
        obtain ⟨a2, d2, R2, D2, y2⟩ := hc2 k k2
        have hT2 := hT.out
        rw [List.drop_eq_getElem_cons k1, List.drop_eq_getElem_cons k2, List.cons_beq_cons] at hT2
        have hlt' : (k : Int) < (n : Int) := by omega
        obtain ⟨x1, hx1⟩ : ∃ x, x = L1[k] := ⟨_, rfl⟩
        obtain ⟨x2, hx2⟩ : ∃ x, x = L2[k] := ⟨_, rfl⟩
        rw [← hx1] at D1 R1 hT2
        rw [← hx2] at D2 R2 hT2
        have HT := Lib.hid hT2
        have R1' := cell_on R1 hB
        have R2' := cell_on R2 hB
        have HC := Lib.hid (EqualB_any a1 a2 x1 x2 x1.length x2.length d1 d2 wr (D1.on hB) (D2.on hB) rfl rfl)
        clear y1 y2 hx1 hx2 hT hT2 hc1 hc2 k1 k2 e1 e2 R1 R2 D1 D2
        go_wp2_with fail
        refine HC.out.mono ?_
        rintro e w3 ⟨rfl, rfl⟩
        cases hv : (x1 == x2) with
        | true =>
          have HT2 := Lib.hid (show (L1 == L2) = (L1.drop (k + 1) == L2.drop (k + 1)) by rw [HT.out, hv]; rfl)
          clear HT hv HC
          go_wp2_with fail
          go_roundw
          case rel => exact ⟨k + 1, by go_num, by omega, hB, HT2⟩
          case measure => simp [intOf]; omega
        | false =>
          have HT2 := Lib.hid (show (L1 == L2) = false by rw [HT.out, hv]; rfl)
          clear HT hv HC
          go_wp2_with fail
          go_ret
          exact ⟨by rw [HT2.out]; rfl, hB⟩
      · obtain rfl : k = n := by omega
        have HT := Lib.hid (show (L1 == L2) = true by rw [hT.out, List.drop_eq_nil_of_le (by have := E1.out; omega), List.drop_eq_nil_of_le (by have := E2.out; omega)]; rfl)
        clear hT h1 h2
        go_wp2_with fail
        go_ret
        exact ⟨by rw [HT.out]; rfl, hB⟩
  · have HT : Hid ((L1 == L2) = false) := Lib.hid (by rw [beq_eq_false_iff_ne]; intro h; subst h; exact hne rfl)
    have hne' : ((L1.length : Int) != (L2.length : Int)) = true := by rw [bne_iff_ne]; omega
    clear h1 h2 hne
    generalize L1.length = n1 at *
    generalize L2.length = n2 at *
    go_enter Try.func53, Try.ntmps53
    go_wp2_with fail
    go_ret
    exact ⟨by rw [HT.out]; rfl, Below.refl _ _⟩
end Go.Proofs.Ytbeggckkgaoacaa
namespace Go.Proofs.Ytbeggckkgaoacaa
open Go.RowKit
set_option linter.unusedVariables false
set_option maxRecDepth 100000

theorem sameS_1 {a b : St} (h : a.n ≠ b.n) : sameS a b = false := by simp [sameS, h]
theorem sameS_2 {a b : St} (h : a.t ≠ b.t) : sameS a b = false := by simp [sameS, h]
theorem sameS_3 {a b : St} (h : a.c ≠ b.c) : sameS a b = false := by simp [sameS, h]
theorem sameS_4 {a b : St} (h : a.rk ≠ b.rk) : sameS a b = false := by simp [sameS, h]
theorem sameS_5 {a b : St} (h : a.kd ≠ b.kd) : sameS a b = false := by simp [sameS, h]
theorem sameS_6 {a b : St} (h : a.ex ≠ b.ex) : sameS a b = false := by simp [sameS, h]
theorem sameS_7 {a b : St} (h : a.z ≠ b.z) : sameS a b = false := by simp [sameS, h]
theorem sameS_8 {a b : St} (h1 : a.n = b.n) (h2 : a.t = b.t) (h3 : a.c = b.c) (h4 : a.rk = b.rk) (h5 : a.kd = b.kd) (h6 : a.ex = b.ex) (h7 : a.z = b.z) : sameS a b = (a.ds == b.ds) := by simp [sameS, h1, h2, h3, h4, h5, h6, h7]

end Go.Proofs.Ytbeggckkgaoacaa
namespace Go.Proofs.Ytbeggckkgaoacaa
open Go.RowKit
set_option linter.unusedVariables false
set_option maxRecDepth 100000

theorem sameS_d {a b : St} (h : a.ds ≠ b.ds) : sameS a b = false := by simp [sameS, h]
theorem sameS_all {a b : St} (h1 : a.n = b.n) (h2 : a.t = b.t) (h3 : a.c = b.c) (h4 : a.rk = b.rk) (h5 : a.kd = b.kd) (h6 : a.ex = b.ex) (h7 : a.z = b.z) (h8 : a.ds = b.ds) : sameS a b = true := by simp [sameS, h1, h2, h3, h4, h5, h6, h7, h8]

set_option maxHeartbeats 4000000 in
set_option maxRecDepth 100000 in
theorem dSame_any (a b : St) (A B : Option Addr) (c d : Nat) (w : World) (hA : Byss w A a.ds) (hB : Byss w B b.ds) (hc : a.ds.length ≤ 9223372036854775807) :
    Calls Try.prog 21 #[.agg (stC a A c), .agg (stC b B d)] w fun e w' => e = .returned (.bool (sameS a b)) ∧ Below w.heap.size w w' := by
  have HD := Lib.hid (@sameS_d a b)
  have HA := Lib.hid (@sameS_all a b)
  have H1 := Lib.hid (@sameS_1 a b)
  have H2 := Lib.hid (@sameS_2 a b)
  have H3 := Lib.hid (@sameS_3 a b)
  have H4 := Lib.hid (@sameS_4 a b)
  have H5 := Lib.hid (@sameS_5 a b)
  have H6 := Lib.hid (@sameS_6 a b)
  have H7 := Lib.hid (@sameS_7 a b)
  generalize sameS a b = R at *
  obtain ⟨an, at', ac, ar, ak, ae, az, ad⟩ := a
  obtain ⟨bn, bt, bc, br, bk, be, bz, bd⟩ := b
  simp only [stC, stL] at *
  by_cases hne : ad.length = bd.length
  case neg =>
    have HT := Lib.hid (HD.out (fun h => hne (by rw [h])))
    have hne' : ((ad.length : Int) != (bd.length : Int)) = true := by rw [bne_iff_ne]; omega
    clear HD HA H1 H2 H3 H4 H5 H6 H7 hA hB hne hc
    generalize ad.length = n1 at *
    generalize bd.length = n2 at *
    have ra := row_old (.cells #[.string (bs bn), .int .i64 bt, .int .i64 bc, .int .i64 br, .int .i64 bk, .int .i64 be, .string (bs bz), .slice B n2 d] 29 (0, 0)) (row_new (w := w) (k := w.heap.size) (.cells #[.string (bs an), .int .i64 at', .int .i64 ac, .int .i64 ar, .int .i64 ak, .int .i64 ae, .string (bs az), .slice A n1 c] 29 (0, 0)) rfl)
    have rb := row_new (w := w.alloc (.cells #[.string (bs an), .int .i64 at', .int .i64 ac, .int .i64 ar, .int .i64 ak, .int .i64 ae, .string (bs az), .slice A n1 c] 29 (0, 0))) (k := w.heap.size + 1) (.cells #[.string (bs bn), .int .i64 bt, .int .i64 bc, .int .i64 br, .int .i64 bk, .int .i64 be, .string (bs bz), .slice B n2 d] 29 (0, 0)) (by simp)
    have a7 := (cell_of_row _ _ 7 _ _ _ ra).trans (show _ = some (.slice A n1 c) from rfl)
    have b7 := (cell_of_row _ _ 7 _ _ _ rb).trans (show _ = some (.slice B n2 d) from rfl)
    clear ra rb
    go_enter Try.func21, Try.ntmps21
    go_wp2_with fail
    go_ret
    exact ⟨by rw [HT.out]; rfl, Below.alloc (Below.alloc (Below.refl _ _) (Nat.le_refl _) _) (by simp) _⟩
  obtain ⟨nd, hn⟩ : ∃ n, n = ad.length := ⟨_, rfl⟩
  rw [← hne, ← hn]
  rw [← hn] at hc
  have E1 := Lib.hid hn
  have E2 := Lib.hid (hn.trans hne)
  clear hn hne
  have ra := row_old (.cells #[.string (bs bn), .int .i64 bt, .int .i64 bc, .int .i64 br, .int .i64 bk, .int .i64 be, .string (bs bz), .slice B nd d] 29 (0, 0)) (row_new (w := w) (k := w.heap.size) (.cells #[.string (bs an), .int .i64 at', .int .i64 ac, .int .i64 ar, .int .i64 ak, .int .i64 ae, .string (bs az), .slice A nd c] 29 (0, 0)) rfl)
  have rb := row_new (w := w.alloc (.cells #[.string (bs an), .int .i64 at', .int .i64 ac, .int .i64 ar, .int .i64 ak, .int .i64 ae, .string (bs az), .slice A nd c] 29 (0, 0))) (k := w.heap.size + 1) (.cells #[.string (bs bn), .int .i64 bt, .int .i64 bc, .int .i64 br, .int .i64 bk, .int .i64 be, .string (bs bz), .slice B nd d] 29 (0, 0)) (by simp)
  have bw : Below w.heap.size w ((w.alloc (.cells #[.string (bs an), .int .i64 at', .int .i64 ac, .int .i64 ar, .int .i64 ak, .int .i64 ae, .string (bs az), .slice A nd c] 29 (0, 0))).alloc (.cells #[.string (bs bn), .int .i64 bt, .int .i64 bc, .int .i64 br, .int .i64 bk, .int .i64 be, .string (bs bz), .slice B nd d] 29 (0, 0))) := Below.alloc (Below.alloc (Below.refl _ _) (Nat.le_refl _) _) (by simp) _
  have a0 := (cell_of_row _ _ 0 _ _ _ ra).trans (show _ = some (.string (bs an)) from rfl)
  have b0 := (cell_of_row _ _ 0 _ _ _ rb).trans (show _ = some (.string (bs bn)) from rfl)
  have a1 := (cell_of_row _ _ 1 _ _ _ ra).trans (show _ = some (.int .i64 at') from rfl)
  have b1 := (cell_of_row _ _ 1 _ _ _ rb).trans (show _ = some (.int .i64 bt) from rfl)
  have a2 := (cell_of_row _ _ 2 _ _ _ ra).trans (show _ = some (.int .i64 ac) from rfl)
  have b2 := (cell_of_row _ _ 2 _ _ _ rb).trans (show _ = some (.int .i64 bc) from rfl)
  have a3 := (cell_of_row _ _ 3 _ _ _ ra).trans (show _ = some (.int .i64 ar) from rfl)
  have b3 := (cell_of_row _ _ 3 _ _ _ rb).trans (show _ = some (.int .i64 br) from rfl)
  have a4 := (cell_of_row _ _ 4 _ _ _ ra).trans (show _ = some (.int .i64 ak) from rfl)
  have b4 := (cell_of_row _ _ 4 _ _ _ rb).trans (show _ = some (.int .i64 bk) from rfl)
  have a5 := (cell_of_row _ _ 5 _ _ _ ra).trans (show _ = some (.int .i64 ae) from rfl)
  have b5 := (cell_of_row _ _ 5 _ _ _ rb).trans (show _ = some (.int .i64 be) from rfl)
  have a6 := (cell_of_row _ _ 6 _ _ _ ra).trans (show _ = some (.string (bs az)) from rfl)
  have b6 := (cell_of_row _ _ 6 _ _ _ rb).trans (show _ = some (.string (bs bz)) from rfl)
  have a7 := (cell_of_row _ _ 7 _ _ _ ra).trans (show _ = some (.slice A nd c) from rfl)
  have b7 := (cell_of_row _ _ 7 _ _ _ rb).trans (show _ = some (.slice B nd d) from rfl)
  have x1 := bs_toList an
  have x2 := bs_toList bn
  have x3 := bs_toList az
  have x4 := bs_toList bz
  have hA' := hA.on bw
  have hB' := hB.on bw
  clear ra rb hA hB
  go_enter Try.func21, Try.ntmps21
  go_wp2_with fail
  generalize (w.alloc (.cells #[.string (bs an), .int .i64 at', .int .i64 ac, .int .i64 ar, .int .i64 ak, .int .i64 ae, .string (bs az), .slice A nd c] 29 (0, 0))).alloc (.cells #[.string (bs bn), .int .i64 bt, .int .i64 bc, .int .i64 br, .int .i64 bk, .int .i64 be, .string (bs bz), .slice B nd d] 29 (0, 0)) = W0 at *
  go_loopw [16] (fun v wr => ∃ k q : Nat, wr = W0.drewN q ∧ v = .int .i64 k ∧ k ≤ nd ∧ Hid ((ad == bd) = (ad.drop k == bd.drop k))) (fun v _ => nd - (intOf v).toNat)
  case atStart => exact ⟨0, 0, rfl, rfl, by omega, Lib.hid rfl⟩
  case round =>
    obtain ⟨k, q, rfl, rfl, hk, hT⟩ := hrel
    by_cases hlt : k < nd
    · have e1 := E1.out
      have e2 := E2.out
      obtain ⟨g1, o1, rfl, hc1⟩ := id hA' (by omega)
      obtain ⟨g2, o2, rfl, hc2⟩ := id hB' (by omega)
      have k1 : k < ad.length := by omega
      have k2 : k < bd.length := by omega
      obtain ⟨p1, d1, R1, D1, y1⟩ := hc1 k k1
      obtain ⟨p2, d2, R2, D2, y2⟩ := hc2 k k2
      have hT2 := hT.out
      rw [List.drop_eq_getElem_cons k1, List.drop_eq_getElem_cons k2, List.cons_beq_cons] at hT2
      have hlt' : (k : Int) < (nd : Int) := by omega
      obtain ⟨u1, hu1⟩ : ∃ x, x = ad[k] := ⟨_, rfl⟩
      obtain ⟨u2, hu2⟩ : ∃ x, x = bd[k] := ⟨_, rfl⟩
      rw [← hu1] at D1 R1 hT2
      rw [← hu2] at D2 R2 hT2
      have HT := Lib.hid hT2
      have s1 := fun n => string_bys p1 u1 d1 (W0.drewN n) (D1.on (below_drewN (Below.refl _ _) _))
      have s2 := fun n => string_bys p2 u2 d2 (W0.drewN n) (D2.on (below_drewN (Below.refl _ _) _))
      clear y1 y2 hu1 hu2 hT hT2 hc1 hc2 k1 k2 e1 e2 D1 D2 hA' hB' a0 a1 a2 a3 a4 a5 a6 b0 b1 b2 b3 b4 b5 b6 x1 x2 x3 x4
      by_cases hx : u1 = u2
      · have hb : (bs u1 == bs u2) = true := by rw [bs_beq]; simp [hx]
        have hb2 : (u1 == u2) = true := by simp [hx]
        have HT2 := Lib.hid (show (ad == bd) = (ad.drop (k + 1) == bd.drop (k + 1)) by rw [HT.out, show (u1 == u2) = true by simp [hx], Bool.true_and])
        clear HT hx
        go_wp2_with fail
        go_quiet (fail)
        go_wp2_with fail
        go_roundw
        case rel => exact ⟨k + 1, _, rfl, by go_num, by omega, HT2⟩
        case measure => simp [intOf]; omega
      · have hb : (bs u1 == bs u2) = false := by rw [bs_beq]; simp [hx]
        have hb2 : (u1 == u2) = false := by simp [hx]
        have HT2 := Lib.hid (HD.out (by
          intro h
          have := HT.out
          rw [show (u1 == u2) = false by simp [hx], Bool.false_and, h] at this
          simp at this))
        clear HT hx
        go_wp2_with fail
        go_quiet (fail)
        go_wp2_with fail
        go_ret
        exact ⟨by rw [HT2.out]; rfl, below_drewN (below_drewN bw _) _⟩
    · obtain rfl : k = nd := by omega
      have HQ := Lib.hid (show ad = bd by
        have := hT.out
        rw [List.drop_eq_nil_of_le (by have := E1.out; omega), List.drop_eq_nil_of_le (by have := E2.out; omega)] at this
        simpa using this)
      have hlt' : ¬ (k : Int) < (k : Int) := by omega
      clear hT hA' hB' a7 b7 HD hlt hk
      by_cases h1 : an = bn
      case neg =>
        have HFH := Lib.hid (H1.out h1)
        have t1 : (an == bn) = false := by simp [h1]
        clear H1 H2 H3 H4 H5 H6 H7 HA HQ h1
        go_wp2_with fail
        go_ret
        exact ⟨by rw [HFH.out]; rfl, below_drewN bw _⟩
      have t1 : (an == bn) = true := by simp [h1]
      have G1 := Lib.hid h1
      clear h1
      by_cases h2 : at' = bt
      case neg =>
        have HFH := Lib.hid (H2.out h2)
        have t2 : (at' == bt) = false := by simp [h2]
        clear H1 H2 H3 H4 H5 H6 H7 HA HQ G1 h2
        go_wp2_with fail
        go_ret
        exact ⟨by rw [HFH.out]; rfl, below_drewN bw _⟩
      have t2 : (at' == bt) = true := by simp [h2]
      have G2 := Lib.hid h2
      clear h2
      by_cases h3 : ac = bc
      case neg =>
        have HFH := Lib.hid (H3.out h3)
        have t3 : (ac == bc) = false := by simp [h3]
        clear H1 H2 H3 H4 H5 H6 H7 HA HQ G1 G2 h3
        go_wp2_with fail
        go_ret
        exact ⟨by rw [HFH.out]; rfl, below_drewN bw _⟩
      have t3 : (ac == bc) = true := by simp [h3]
      have G3 := Lib.hid h3
      clear h3
      by_cases h4 : ar = br
      case neg =>
        have HFH := Lib.hid (H4.out h4)
        have t4 : (ar == br) = false := by simp [h4]
        clear H1 H2 H3 H4 H5 H6 H7 HA HQ G1 G2 G3 h4
        go_wp2_with fail
        go_ret
        exact ⟨by rw [HFH.out]; rfl, below_drewN bw _⟩
      have t4 : (ar == br) = true := by simp [h4]
      have G4 := Lib.hid h4
      clear h4
      by_cases h5 : ak = bk
      case neg =>
        have HFH := Lib.hid (H5.out h5)
        have t5 : (ak == bk) = false := by simp [h5]
        clear H1 H2 H3 H4 H5 H6 H7 HA HQ G1 G2 G3 G4 h5
        go_wp2_with fail
        go_ret
        exact ⟨by rw [HFH.out]; rfl, below_drewN bw _⟩
      have t5 : (ak == bk) = true := by simp [h5]
      have G5 := Lib.hid h5
      clear h5
      by_cases h6 : ae = be
      case neg =>
        have HFH := Lib.hid (H6.out h6)
        have t6 : (ae == be) = false := by simp [h6]
        clear H1 H2 H3 H4 H5 H6 H7 HA HQ G1 G2 G3 G4 G5 h6
        go_wp2_with fail
        go_ret
        exact ⟨by rw [HFH.out]; rfl, below_drewN bw _⟩
      have t6 : (ae == be) = true := by simp [h6]
      have G6 := Lib.hid h6
      clear h6
      by_cases h7 : az = bz
      case neg =>
        have HFH := Lib.hid (H7.out h7)
        have t7 : (az == bz) = false := by simp [h7]
        clear H1 H2 H3 H4 H5 H6 H7 HA HQ G1 G2 G3 G4 G5 G6 h7
        go_wp2_with fail
        go_ret
        exact ⟨by rw [HFH.out]; rfl, below_drewN bw _⟩
      have t7 : (az == bz) = true := by simp [h7]
      have G7 := Lib.hid h7
      clear h7
      have HFH := Lib.hid (HA.out G1.out G2.out G3.out G4.out G5.out G6.out G7.out HQ.out)
      clear H1 H2 H3 H4 H5 H6 H7 HA G1 G2 G3 G4 G5 G6 G7 HQ
      go_wp2_with fail
      go_ret
      exact ⟨by rw [HFH.out]; rfl, below_drewN bw _⟩
end Go.Proofs.Ytbeggckkgaoacaa
namespace Go.Proofs.Ytbeggckkgaoacaa
open Go.RowKit
set_option linter.unusedVariables false
set_option maxRecDepth 100000
attribute [local go_sem ↓] exec_loadSt

/-- An entry's cells; the key of a set. -/
def enL (d : Bool) (s : St) (A : Option Addr) (c : Nat) : List Value := .bool d :: stL s A c
def enC (d : Bool) (s : St) (A : Option Addr) (c : Nat) : Array Value := (enL d s A c).toArray
def keyS (s : St) : St := ⟨s.n, s.t, s.c, 0, 0, 0, [], []⟩
def canE (d : Bool) (s : St) : Bool := if d then canKeyS s && sameS s (keyS s) else canS s
theorem info_en : (Try.prog.info? 100).map (·.size) = some 9 := by kernel_rfl
theorem en_one (d : Bool) (s : St) (A : Option Addr) (c : Nat) : (enC d s A c).all (·.oneCell') = true := by simp [enC, enL, stL, Value.oneCell']
theorem canKey_key (s : St) : canKeyS (keyS s) = canKeyS s := rfl
theorem en_mid {w : World} {g : Nat} {d : Bool} {s : St} {A : Option Addr} {c : Nat} (h : w.heap[g]? = some (.cells (enC d s A c) 100 (0, 0))) : w.rangeAt g 1 (stL s A c) := fun j v hj => by
  rw [cell_of_row _ g (1 + j) _ _ _ h]
  rw [enC, List.getElem?_toArray, enL, show 1 + j = j + 1 by omega, List.getElem?_cons_succ]
  exact hj
theorem en_cell {w : World} {g : Nat} {d : Bool} {s : St} {A : Option Addr} {c : Nat} (h : w.heap[g]? = some (.cells (enC d s A c) 100 (0, 0))) :
    w.cell? ⟨g, 0, none⟩ = some (.bool d) ∧ w.cell? ⟨g, 1, none⟩ = some (.string (bs s.n)) ∧ w.cell? ⟨g, 2, none⟩ = some (.int .i64 s.t) ∧ w.cell? ⟨g, 3, none⟩ = some (.int .i64 s.c) :=
  ⟨(cell_of_row _ g 0 _ _ _ h).trans rfl, (cell_of_row _ g 1 _ _ _ h).trans rfl, (cell_of_row _ g 2 _ _ _ h).trans rfl, (cell_of_row _ g 3 _ _ _ h).trans rfl⟩
theorem byss_nil (w : World) : Byss w none [] := fun h => absurd h (by simp)


end Go.Proofs.Ytbeggckkgaoacaa
namespace Go.Proofs.Ytbeggckkgaoacaa
open Go
set_option linter.unusedVariables false
set_option maxRecDepth 100000

section
variable {P : Program} {ops : Array Oper} {md : Region.Mode} {Q : Exit → Act → World → Prop}

/-- Behind the head the tail is walked. -/
def headPost (P : Program) (ops : Array Oper) (T : List Oper) (Q : Exit → Act → World → Prop) : Exit → Act → World → Prop
  | .normal, a, w => wpList P ops Q T a w
  | e, a, w => Q e a w

theorem wp_head {T : List Oper} {o : Oper} {a : Act} {w : World} {K : Act → World → Prop} (hh : o.wp P a w K (headPost P ops T Q)) : o.wp P a w K Q := by
  unfold Oper.wp at *
  generalize (execOp a.eval o).run P w = r at *
  cases r with
  | ok n w' =>
    cases n <;> simp only [Oper.upon] at hh ⊢ <;>
      first
        | exact hh
        | exact Calls.mono hh (fun e w'' he => by cases e <;> exact he)
        | exact Rows.mono hh (fun _ _ he => he)
  | halt x w' => cases x <;> simp only [Oper.upon] at hh ⊢ <;> exact hh
theorem wpAny_succ : ∀ (f : Nat) (b : Array Bool) (a : Act) (w : World), wpAny P md ops Q f b a w → wpAny P md ops Q (f + 1) b a w
  | 0, b, a, w, h => ⟨fun _ => h.2, fun i hi => by rw [h.1] at hi; cases hi⟩
  | f + 1, b, a, w, h => ⟨h.1, fun i hi => wpOp_mono (fun a' w' h' => wpAny_succ f _ a' w' h') (h.2 i hi)⟩
theorem wpAny_more (f k : Nat) (b : Array Bool) (a : Act) (w : World) (h : wpAny P md ops Q f b a w) : wpAny P md ops Q (f + k) b a w := by
  induction k with
  | zero => exact h
  | succ k ih => exact wpAny_succ _ _ _ _ ih

/-- Each operation of the head waits for earlier ones alone, and hangs on earlier ones alone. -/
def Region.fwdB (md : Region.Mode) (ops : Array Oper) (n : Nat) : Bool :=
  (List.range n).all fun i => match ops[i]? with
    | none => true
    | some o => (o.after.all fun e => !Region.binds md e || decide (e.on < i)) && (match o.guard with | none => true | some (j, _) => decide (j < n))
/-- The head listed, the tail not. -/
def Region.headDone (n m : Nat) : Array Bool := Array.replicate n true ++ Array.replicate m false
def Region.splitB (md : Region.Mode) (ops : Array Oper) (n : Nat) : Bool :=
  decide (n < ops.size) && Region.sinkB md ops n && Region.chainB md ops n && Region.fwdB md ops n && Region.seqB md ops (ops.size - n) n (Region.headDone n (ops.size - n))

theorem fwd_after {n i : Nat} {o : Oper} (h : Region.fwdB md ops n = true) (hi : i < n) (ho : ops[i]? = some o) : ∀ e ∈ o.after, Region.binds md e = true → e.on < i := by
  have := List.all_eq_true.1 h i (List.mem_range.2 hi)
  rw [ho] at this
  simp only [Bool.and_eq_true, Array.all_eq_true_iff_forall_mem, Bool.or_eq_true, Bool.not_eq_true', decide_eq_true_eq] at this
  intro e he hb
  rcases this.1 e he with h1 | h1
  · rw [hb] at h1; cases h1
  · exact h1
theorem fwd_guard {n i : Nat} {o : Oper} (h : Region.fwdB md ops n = true) (hi : i < n) (ho : ops[i]? = some o) : ∀ j v, o.guard = some (j, v) → j < n := by
  have := List.all_eq_true.1 h i (List.mem_range.2 hi)
  rw [ho] at this
  simp only [Bool.and_eq_true] at this
  intro j v hg
  have h2 := this.2
  rw [hg] at h2
  simpa using h2

/-- An unlisted operation of the head: then one is ready. -/
theorem head_ready {n : Nat} {b : Array Bool} (hf : Region.fwdB md ops n = true) (hn : n ≤ ops.size) : ∀ (i : Nat), i < n → b.getD i true = false → ∃ k, k < n ∧ k ∈ Region.ready md ops b := by
  intro i
  induction i using Nat.strongRecOn with
  | _ i ih =>
    intro hi hu
    obtain ⟨o, ho⟩ : ∃ o, ops[i]? = some o := ⟨_, Array.getElem?_eq_getElem (by omega)⟩
    by_cases hall : ∀ e ∈ o.after, Region.binds md e = true → b.getD e.on false = true
    · exact ⟨i, hi, mem_ready.2 ⟨hu, o, ho, hall⟩⟩
    · have : ∃ e, e ∈ o.after ∧ Region.binds md e = true ∧ b.getD e.on false = false := by
        apply Classical.byContradiction
        intro hno
        refine hall fun e he hb => ?_
        cases hv : b.getD e.on false with
        | true => rfl
        | false => exact absurd ⟨e, he, hb, hv⟩ hno
      obtain ⟨e, he, hb, hv⟩ := this
      have hlt := fwd_after hf hi ho e he hb
      by_cases hin : e.on < b.size
      · exact ih e.on hlt (by omega) (getD_in hin hv)
      · exfalso
        have : b.getD i true = true := by
          rw [Array.getD_eq_getD_getElem?, Array.getElem?_eq_none (by omega)]; rfl
        rw [hu] at this
        cases this

theorem split_runs {n : Nat} {T : List Oper} {hops : Array Oper} (hh : ∀ i, i < n → hops[i]? = ops[i]?) (hsz : hops.size = n) (hn : n < ops.size)
    (hs : Region.sinkB md ops n = true) (hc : Region.chainB md ops n = true) (hf : Region.fwdB md ops n = true) (hT : ∀ j, T[j]? = ops[n + j]?) (hTl : T.length = ops.size - n)
    (hq : Region.seqB md ops T.length n (Region.headDone n (ops.size - n)) = true) :
    ∀ (f : Nat) (b b' : Array Bool) (a : Act) (w : World), HeadInv md ops n b → b'.size = n → (∀ i, i < n → b.getD i true = b'.getD i true) → wpAny P md hops (headPost P ops T Q) f b' a w → wpAny P md ops Q (f + T.length) b a w := by
  have hread : ∀ (b b' : Array Bool), HeadInv md ops n b → b'.size = n → (∀ i, i < n → b.getD i true = b'.getD i true) → ∀ i, i < n → (i ∈ Region.ready md ops b ↔ i ∈ Region.ready md hops b') := by
    intro b b' inv hb' he i hi
    rw [mem_ready, mem_ready, hh i hi, he i hi]
    refine and_congr_right fun _ => ⟨fun ⟨o, ho, hall⟩ => ⟨o, ho, fun e hm hb => ?_⟩, fun ⟨o, ho, hall⟩ => ⟨o, ho, fun e hm hb => ?_⟩⟩
    · have hlt := fwd_after hf hi ho e hm hb
      have h1 := hall e hm hb
      have h2 := he e.on (by omega)
      have hb1 : e.on < b.size := by rw [inv.size]; omega
      have hb2 : e.on < b'.size := by omega
      simp [hb1, hb2] at h1 h2 ⊢
      rw [← h2]; exact h1
    · have hlt := fwd_after hf hi ho e hm hb
      have h1 := hall e hm hb
      have h2 := he e.on (by omega)
      have hb1 : e.on < b.size := by rw [inv.size]; omega
      have hb2 : e.on < b'.size := by omega
      simp [hb1, hb2] at h1 h2 ⊢
      rw [h2]; exact h1
  have hdone : ∀ (b b' : Array Bool), HeadInv md ops n b → b'.size = n → (∀ i, i < n → b.getD i true = b'.getD i true) → Region.ready md hops b' = [] → ∀ a w, wpList P ops Q T a w → wpAny P md ops Q T.length b a w := by
    intro b b' inv hb' he hr a w h
    have hall : ∀ i, i < n → b.getD i true = true := by
      intro i hi
      cases hv : b.getD i true with
      | true => rfl
      | false =>
        obtain ⟨k, hk, hkr⟩ := head_ready hf (by omega) i hi hv
        rw [hread b b' inv hb' he k hk, hr] at hkr
        cases hkr
    have hb : b = Region.headDone n (ops.size - n) := by
      apply Array.ext
      · rw [inv.size]; simp [Region.headDone]; omega
      · intro i h1 h2
        by_cases hi : i < n
        · have := hall i hi
          simp [h1] at this
          rw [this]
          simp [Region.headDone, hi]
        · have := inv.tail i (by omega) (by rw [← inv.size]; exact h1)
          simp [h1] at this
          rw [this]
          simp only [Region.headDone]
          rw [Array.getElem_append_right (by simp; omega)]
          simp
    rw [hb]
    exact wpAny_of_seq T n _ a w hT hq h
  intro f
  induction f with
  | zero =>
    intro b b' a w inv hb' he h
    rw [Nat.zero_add]
    exact hdone b b' inv hb' he h.1 a w h.2
  | succ f ih =>
    intro b b' a w inv hb' he h
    by_cases hr : Region.ready md hops b' = []
    · have := hdone b b' inv hb' he hr a w (h.1 hr)
      rw [Nat.add_comm]
      exact wpAny_more _ _ _ _ _ this
    · obtain ⟨k, hkr⟩ := List.exists_mem_of_ne_nil _ hr
      have hkn : k < n := by
        obtain ⟨_, o, ho, _⟩ := mem_ready.1 hkr
        have := (Array.getElem?_eq_some_iff.1 ho).1
        omega
      have hko := (hread b b' inv hb' he k hkn).2 hkr
      have hun : b.getD k true = false := (mem_ready.1 hko).1
      rw [Nat.succ_add]
      refine ⟨fun h0 => (by rw [h0] at hko; cases hko), fun i hi => ?_⟩
      have hin : i < n := Nat.lt_of_not_le fun hle => tail_waits hs hc hn inv _ k rfl hkn hun i hle hi
      have hi' := (hread b b' inv hb' he i hin).1 hi
      have hstep := h.2 i hi'
      have hK : ∀ a' w', wpAny P md hops (headPost P ops T Q) f (b'.setIfInBounds i true) a' w' → wpAny P md ops Q (f + T.length) (b.setIfInBounds i true) a' w' := by
        intro a' w' h'
        refine ih _ _ a' w' (inv.set hi hin) (by simp [hb']) (fun j hj => ?_) h'
        by_cases hij : i = j
        · subst hij
          have h1 : i < b.size := by rw [inv.size]; omega
          simp [h1, hb', hin]
        · rw [getD_set_ne true hij, getD_set_ne true hij]
          exact he j hj
      have hop := wpOp_mono (K' := wpAny P md ops Q (f + T.length) (b.setIfInBounds i true)) hK hstep
      unfold wpOp at hop ⊢
      rw [hh i hin] at hop
      cases ho : ops[i]? with
      | none => rw [ho] at hop; exact hop
      | some o =>
        rw [ho] at hop
        simp only at hop ⊢
        have hw : Region.wanted o (yielded hops a.tmps) = Region.wanted o (yielded ops a.tmps) := by
          unfold Region.wanted
          cases hg : o.guard with
          | none => rfl
          | some p =>
            obtain ⟨j, v⟩ := p
            have hj := fwd_guard hf hin ho j v hg
            simp only [yielded, hh j hj]
        rw [hw] at hop
        by_cases hwn : Region.wanted o (yielded ops a.tmps) = true
        · rw [if_pos hwn] at hop ⊢
          rcases hop with h1 | ⟨h1, h2⟩
          · exact .inl (wp_head h1)
          · exact .inr ⟨h1, h2⟩
        · rw [if_neg hwn] at hop ⊢
          exact hop

/-- The law: a drawn head, a forced tail. -/
theorem wp_region_split {id : Nat} {a : Act} {w : World} {l : List Oper} (n : Nat) (hm : P.follows .mixedOrders = true) (hB : Region.splitB .any l.toArray n = true)
    (h : wpAny P .any (l.take n).toArray (headPost P l.toArray (l.drop n) Q) n (Array.replicate n false) a { w with drawn := w.drawn + 1 }) : (Code.region id l.toArray true).wp P Q a w := by
  unfold Region.splitB at hB
  simp only [Bool.and_eq_true, decide_eq_true_eq] at hB
  obtain ⟨⟨⟨⟨hn, hs⟩, hc⟩, hf⟩, hq⟩ := hB
  have hn' : n < l.length := by simpa using hn
  have hTl : (l.drop n).length = l.toArray.size - n := by simp
  refine wp_region_any hm ?_
  have := split_runs (P := P) (Q := Q) (ops := l.toArray) (md := .any) (T := l.drop n) (hops := (l.take n).toArray) (fun i hi => by simp [List.getElem?_take_of_lt hi]) (by simp; omega) hn hs hc hf (fun j => by simp [List.getElem?_drop]) hTl (by rw [hTl]; exact hq) n (Array.replicate l.toArray.size false) (Array.replicate n false) a _
    ⟨by simp, fun j oj _ hj => (by rw [getD_replicate_false] at hj; cases hj), fun t _ ht => getD_in (by simpa using ht) (getD_replicate_false _ _)⟩ (by simp)
    (fun i hi => by
      have h1 : i < l.length := by omega
      simp [hi, h1]) h
  rw [hTl, show n + (l.toArray.size - n) = l.toArray.size by omega] at this
  exact this
end
end Go.Proofs.Ytbeggckkgaoacaa
namespace Go.Proofs.Ytbeggckkgaoacaa
open Go Go.RowKit
set_option linter.unusedVariables false
set_option maxRecDepth 100000

section
variable {P : Program} {ops : Array Oper} {md : Region.Mode} {Q : Exit → Act → World → Prop}

/-- What holds while the operations come up. -/
structure Under (ops : Array Oper) (d : Nat → Nat) (R : Nat → Value → World → Prop) (a0 : Act) (B : Nat) (w0 : World) (b : Array Bool) (a : Act) (w : World) : Prop where
  size : b.size = ops.size
  tmps : a.tmps.size = a0.tmps.size
  defers : a.defers = a0.defers
  old : ∀ j, (∀ i, i < ops.size → d i ≠ j) → a.tmps[j]? = a0.tmps[j]?
  got : ∀ i, i < ops.size → b.getD i true = true → ∃ v, a.tmps[d i]? = some v ∧ R i v w
  bel : Below B w0 w
  big : B ≤ w.heap.size

def putAll (d : Nat → Nat) (V : Nat → Value) : Nat → Act → Act
  | 0, a => a
  | n + 1, a => (putAll d V n a).put (some (d n)) (V n)
theorem putAll_size (d : Nat → Nat) (V : Nat → Value) : ∀ (n : Nat) (a : Act), (putAll d V n a).tmps.size = a.tmps.size
  | 0, _ => rfl
  | n + 1, a => by simp [putAll, Act.put, putAll_size d V n a]
theorem putAll_defers (d : Nat → Nat) (V : Nat → Value) : ∀ (n : Nat) (a : Act), (putAll d V n a).defers = a.defers
  | 0, _ => rfl
  | n + 1, a => by simp [putAll, Act.put, putAll_defers d V n a]
theorem putAll_old (d : Nat → Nat) (V : Nat → Value) : ∀ (n : Nat) (a : Act) (j : Nat), (∀ i, i < n → d i ≠ j) → (putAll d V n a).tmps[j]? = a.tmps[j]?
  | 0, _, _, _ => rfl
  | n + 1, a, j, h => by
    have := h n (by omega)
    simp only [putAll, Act.put]
    rw [Array.getElem?_setIfInBounds_ne this, putAll_old d V n a j fun i hi => h i (by omega)]
theorem putAll_at (d : Nat → Nat) (V : Nat → Value) : ∀ (n : Nat) (a : Act) (i : Nat), (∀ i j, i < n → j < n → d i = d j → i = j) → i < n → d i < a.tmps.size → (putAll d V n a).tmps[d i]? = some (V i)
  | n + 1, a, i, hinj, hi, hs => by
    simp only [putAll, Act.put]
    by_cases h : i = n
    · subst h
      rw [Array.getElem?_setIfInBounds_self_of_lt (by rw [putAll_size]; exact hs)]
    · rw [Array.getElem?_setIfInBounds_ne (fun e => h (hinj n i (by omega) (by omega) e).symm), putAll_at d V n a i (fun i j hi hj => hinj i j (by omega) (by omega)) (by omega) hs]

theorem count_set : ∀ (l : List Bool) (i : Nat), l[i]? = some false → (l.set i true).count false + 1 = l.count false
  | x :: l, 0, h => by
    simp at h
    subst h
    simp
  | x :: l, i + 1, h => by
    have := count_set l i (by simpa using h)
    simp only [List.set_cons_succ, List.count_cons]
    omega

theorem wpAny_under {d : Nat → Nat} {R : Nat → Value → World → Prop} {a0 : Act} {B : Nat} {w0 : World} (hf : Region.fwdB md ops ops.size = true)
    (hinj : ∀ i j, i < ops.size → j < ops.size → d i = d j → i = j) (hd : ∀ i, i < ops.size → d i < a0.tmps.size)
    (hstab : ∀ i v w w', R i v w → Below w.heap.size w w' → R i v w')
    (hstep : ∀ i, i < ops.size → ∀ b a w, Under ops d R a0 B w0 b a w → i ∈ Region.ready md ops b → ∃ o, ops[i]? = some o ∧ o.guard = none ∧ o.wp P a w (fun a' w' => ∃ v, a' = a.put (some (d i)) v ∧ R i v w' ∧ Below w.heap.size w w') Q)
    (hend : ∀ V w, (∀ i, i < ops.size → R i (V i) w) → Below B w0 w → B ≤ w.heap.size → Q .normal (putAll d V ops.size a0) w) :
    ∀ (f : Nat) (b : Array Bool) (a : Act) (w : World), b.toList.count false ≤ f → Under ops d R a0 B w0 b a w → wpAny P md ops Q f b a w := by
  have hfin : ∀ b a w, Under ops d R a0 B w0 b a w → Region.ready md ops b = [] → Q .normal a w := by
    intro b a w u hr
    have hall : ∀ i, i < ops.size → b.getD i true = true := by
      intro i hi
      cases hv : b.getD i true with
      | true => rfl
      | false =>
        obtain ⟨k, hk, hkr⟩ := head_ready hf (Nat.le_refl _) i hi hv
        rw [hr] at hkr
        cases hkr
    have hV : ∃ V : Nat → Value, ∀ i, i < ops.size → a.tmps[d i]? = some (V i) ∧ R i (V i) w := by
      refine ⟨fun i => (a.tmps[d i]?).getD undef, fun i hi => ?_⟩
      obtain ⟨v, h1, h2⟩ := u.got i hi (hall i hi)
      have e : (a.tmps[d i]?).getD undef = v := by rw [h1]; rfl
      simp only [e]
      exact ⟨h1, h2⟩
    obtain ⟨V, hV⟩ := hV
    have ha : a = putAll d V ops.size a0 := by
      have ht : a.tmps = (putAll d V ops.size a0).tmps := by
        apply Array.ext_getElem?
        intro j
        by_cases h : ∃ i, i < ops.size ∧ d i = j
        · obtain ⟨i, hi, rfl⟩ := h
          rw [(hV i hi).1, putAll_at d V ops.size a0 i hinj hi (hd i hi)]
        · have hno : ∀ i, i < ops.size → d i ≠ j := fun i hi e => h ⟨i, hi, e⟩
          rw [u.old j hno, putAll_old d V ops.size a0 j hno]
      have hdf : a.defers = (putAll d V ops.size a0).defers := u.defers.trans (putAll_defers d V ops.size a0).symm
      cases a
      cases hp : putAll d V ops.size a0
      rw [hp] at ht hdf
      simp only at ht hdf
      rw [ht, hdf]
    rw [ha]
    exact hend V w (fun i hi => (hV i hi).2) u.bel u.big
  intro f
  induction f with
  | zero =>
    intro b a w hc u
    have hr : Region.ready md ops b = [] := by
      apply List.eq_nil_iff_forall_not_mem.2
      intro i hi
      obtain ⟨hu, o, ho, _⟩ := mem_ready.1 hi
      have hib : i < b.size := by rw [u.size]; exact (Array.getElem?_eq_some_iff.1 ho).1
      simp [hib] at hu
      have h0 : b.toList.count false = 0 := by omega
      rw [List.count_eq_zero] at h0
      exact h0 (by rw [← hu]; simp)
    exact ⟨hr, hfin b a w u hr⟩
  | succ f ih =>
    intro b a w hc u
    refine ⟨fun hr => hfin b a w u hr, fun i hi => ?_⟩
    obtain ⟨hu, o', ho', _⟩ := mem_ready.1 hi
    have his : i < ops.size := (Array.getElem?_eq_some_iff.1 ho').1
    have hib : i < b.size := by rw [u.size]; exact his
    obtain ⟨o, ho, hg, hw⟩ := hstep i his b a w u hi
    unfold wpOp
    rw [ho]
    simp only
    rw [if_pos (by unfold Region.wanted; rw [hg])]
    refine .inl (Oper.wp_mono (fun a' w' h' => ?_) hw)
    obtain ⟨v, rfl, hR, hB⟩ := h'
    refine ih _ _ _ ?_ ⟨by simp [u.size], by simp [Act.put, u.tmps], u.defers, fun j hj => ?_, fun k hk hkb => ?_, Below.trans u.bel (hB.mono u.big), Nat.le_trans u.big hB.size⟩
    · have h1 : b.toList[i]? = some false := by
        simp [hib] at hu
        simp [hib, hu]
      have := count_set b.toList i h1
      rw [Array.toList_setIfInBounds]
      omega
    · simp only [Act.put]
      rw [Array.getElem?_setIfInBounds_ne (hj i his)]
      exact u.old j hj
    · simp only [Act.put]
      by_cases hki : k = i
      · subst hki
        exact ⟨v, Array.getElem?_setIfInBounds_self_of_lt (by rw [u.tmps]; exact hd k hk), hR⟩
      · rw [getD_set_ne true (Ne.symm hki)] at hkb
        obtain ⟨v', h1, h2⟩ := u.got k hk hkb
        exact ⟨v', by rw [Array.getElem?_setIfInBounds_ne (fun e => hki (hinj i k his hk e).symm)]; exact h1, hstab k v' w w' h2 hB⟩

/-- The way back from Q to what is asked behind the head. -/
theorem wp_weak {T : List Oper} {o : Oper} {a : Act} {w : World} {K : Act → World → Prop} (hh : o.wp P a w K Q) : o.wp P a w K (headPost P ops T Q) := by
  unfold Oper.wp at *
  generalize (execOp a.eval o).run P w = r at *
  cases r with
  | ok n w' =>
    cases n <;> simp only [Oper.upon] at hh ⊢ <;>
      first
        | exact hh
        | exact Calls.mono hh (fun e w'' he => by cases e <;> exact he)
        | exact Rows.mono hh (fun _ _ he => he)
  | halt x w' => cases x <;> simp only [Oper.upon] at hh ⊢ <;> exact hh
/-- The law: a drawn head of operations whose values are said, a forced tail. -/
theorem wp_region_under {id : Nat} {a : Act} {w : World} {l : List Oper} (n : Nat) (hm : P.follows .mixedOrders = true) (hB : Region.splitB .any l.toArray n = true) (hF : Region.fwdB .any (l.take n).toArray n = true) (hn : (l.take n).length = n)
    {d : Nat → Nat} {R : Nat → Value → World → Prop} {B : Nat} (hb : B ≤ w.heap.size)
    (hinj : ∀ i j, i < n → j < n → d i = d j → i = j) (hd : ∀ i, i < n → d i < a.tmps.size)
    (hstab : ∀ i v w w', R i v w → Below w.heap.size w w' → R i v w')
    (hstep : ∀ i, i < n → ∀ b a' w', Under (l.take n).toArray d R a B w b a' w' → i ∈ Region.ready .any (l.take n).toArray b → ∃ o, (l.take n).toArray[i]? = some o ∧ o.guard = none ∧ o.wp P a' w' (fun a2 w2 => ∃ v, a2 = a'.put (some (d i)) v ∧ R i v w2 ∧ Below w'.heap.size w' w2) Q)
    (hend : ∀ V w', (∀ i, i < n → R i (V i) w') → Below B w w' → B ≤ w'.heap.size → wpList P l.toArray Q (l.drop n) (putAll d V n a) w') : (Code.region id l.toArray true).wp P Q a w := by
  have hs : (l.take n).toArray.size = n := by simpa using hn
  refine wp_region_split n hm hB ?_
  refine wpAny_under (ops := (l.take n).toArray) (d := d) (R := R) (a0 := a) (B := B) (w0 := w) (by rw [hs]; exact hF) (by rw [hs]; exact hinj) (by rw [hs]; exact hd) hstab (fun i hi b a' w' u hr => ?_) (fun V w' hV hB hb => ?_) n _ a _ (by simp) ⟨by simp [hs], rfl, rfl, fun _ _ => rfl, fun i hi hbi => ?_, ⟨rfl, rfl, rfl, Nat.le_refl _, fun _ _ => rfl⟩, hb⟩
  · rw [hs] at hi
    obtain ⟨o, h1, h2, h3⟩ := hstep i hi b a' w' u hr
    refine ⟨o, h1, h2, ?_⟩
    exact wp_weak h3
  · rw [hs] at hV ⊢
    exact hend V w' hV hB hb
  · rw [hs] at hi
    simp [hi] at hbi
end
end Go.Proofs.Ytbeggckkgaoacaa
namespace Go.Proofs.Ytbeggckkgaoacaa
open Go.RowKit
set_option linter.unusedVariables false
set_option maxRecDepth 100000
attribute [local go_sem ↓] exec_loadSt

/-- An entry's bytes. -/
def headB (d : Bool) (s : St) : Bs := [if d then 1 else 0] ++ partB 1 s.n ++ bigs 2 [s.t.toNat, s.c.toNat]
def tailB (s : St) : Bs := bigs 1 [s.rk.toNat, s.kd.toNat] ++ bigs 8 [s.ex.toNat] ++ partB 1 s.z ++ bigs 2 [s.ds.length] ++ partsB 2 s.ds
def encB (d : Bool) (s : St) : Bs := if d then headB d s else headB d s ++ tailB s
def EncPost (w : World) (d : Bool) (s : St) (e : Ending) (w' : World) : Prop :=
  Below w.heap.size w w' ∧ ((canE d s = false ∧ e = .returned (.tuple #[.slice none 0 0, .int .i64 1])) ∨ (canE d s = true ∧ ∃ v, e = .returned (.tuple #[v, .int .i64 0]) ∧ OwnB w' w.heap.size v (encB d s)))

theorem ints_new (L : List Nat) (w : World) (T : TypeId) (fr : Nat × Nat) : ∀ j (h : j < L.length), (w.alloc (.cells (L.map fun n : Nat => Value.int .i64 n).toArray T fr)).cell? ⟨w.heap.size, j, none⟩ = some (.int .i64 L[j]) := fun j h => by
  have hb : (w.alloc (.cells (L.map fun n : Nat => Value.int .i64 n).toArray T fr)).heap[w.heap.size]? = some (.cells (L.map fun n : Nat => Value.int .i64 n).toArray T fr) := row_new _ rfl
  unfold World.cell?
  rw [hb]
  simp [h]

/-- What the operations of Encode's drawn region yield. -/
def RE (g B : Nat) (C : Array Value) : Nat → Value → World → Prop
  | 0, x, _ => x = .pointer (some ⟨g, 1, none⟩)
  | 1, x, _ => x = .agg C
  | 2, x, w => ∃ p, x = .pointer (some ⟨p, 0, none⟩) ∧ B ≤ p ∧ w.heap[p]? = some (.cells #[.string ⟨#[]⟩, .int .i64 0, .int .i64 0, .int .i64 0, .int .i64 0, .int .i64 0, .string ⟨#[]⟩, .slice none 0 0] 29 (0, 0))
  | 3, x, _ => x = .int .i64 0
  | _, _, _ => True
theorem RE_on {g B : Nat} {C : Array Value} (i : Nat) (v : Value) (w w' : World) (h : RE g B C i v w) (hB : Below w.heap.size w w') : RE g B C i v w' := by
  match i, h with
  | 0, h => exact h
  | 1, h => exact h
  | 2, ⟨p, h1, h2, h3⟩ => exact ⟨p, h1, h2, (hB.block _ (Array.getElem?_eq_some_iff.1 h3).1).trans h3⟩
  | 3, h => exact h
  | _ + 4, _ => trivial
def dE (i : Nat) : Nat := if i = 0 then 10 else if i = 1 then 11 else if i = 2 then 5 else 4
theorem dE_ne (i : Nat) : dE i ≠ 1 := by
  unfold dE
  split
  · omega
  · split
    · omega
    · split <;> omega
theorem getD_both_true {b : Array Bool} {k : Nat} (h : b.getD k false = true) : b.getD k true = true := by
  rcases Nat.lt_or_ge k b.size with h' | h'
  · simp [h'] at h ⊢; exact h
  · simp [Array.getElem?_eq_none h'] at h
theorem slot_of {a : Act} {j : Nat} {v : Value} (h : a.tmps[j]? = some v) : (a.tmps[j]?).getD undef = v := by rw [h]; rfl
theorem dsz_ge : ∀ L : List Bs, L.length ≤ dsz L
  | [] => by simp
  | x :: L => by
    have := dsz_ge L
    unfold dsz partsB at *
    rw [List.flatMap_cons, List.length_append, List.length_cons]
    have : 2 ≤ (partB 2 x).length := by simp [partB, big_len]
    omega
theorem key_nat {s : St} (h : canKeyS s = true) : can s.n = true ∧ ∃ t c : Nat, s.t = t ∧ s.c = c ∧ t ≤ 65535 ∧ c ≤ 65535 := by
  simp [canKeyS, shortN] at h
  exact ⟨h.1, s.t.toNat, s.c.toNat, by omega, by omega, by omega, by omega⟩
theorem can_nat {s : St} (h : canS s = true) : canKeyS s = true ∧ (∃ rk kd ex : Nat, s.rk = rk ∧ s.kd = kd ∧ s.ex = ex ∧ rk ≤ 3 ∧ kd ≤ 2 ∧ ex ≤ 1099511627776) ∧ 19 + s.n.length + s.z.length + dsz s.ds ≤ 4000 ∧ s.ds.length ≤ 4000 := by
  simp only [canS, Bool.and_eq_true] at h
  obtain ⟨h1, h2, h3, h4⟩ := h
  simp [canTimeS] at h2
  simp [fitsS] at h3
  have hk : s.kd = 0 ∨ s.kd = 1 ∨ s.kd = 2 := by
    unfold kindS at h4
    by_cases a : s.kd = 0
    · exact .inl a
    by_cases b : s.kd = 1
    · exact .inr (.inl b)
    by_cases c : s.kd = 2
    · exact .inr (.inr c)
    rw [if_neg a, if_neg b, if_neg c] at h4
    cases h4
  have hd : s.ds.length ≤ dsz s.ds := dsz_ge s.ds
  exact ⟨h1, ⟨s.rk.toNat, s.kd.toNat, s.ex.toNat, by omega, by omega, by omega, by omega, by omega, by omega⟩, by omega, by omega⟩
theorem shortN_nat {n : Int} (h : shortN n = true) : ∃ m : Nat, n = m ∧ m ≤ 65535 := by
  simp [shortN] at h
  exact ⟨n.toNat, by omega, by omega⟩

end Go.Proofs.Ytbeggckkgaoacaa
namespace Go.Proofs.Ytbeggckkgaoacaa
open Go.RowKit
set_option linter.unusedVariables false
set_option maxRecDepth 100000

theorem big_step (k n : Nat) : big (k + 1) n = UInt8.ofNat (n / 256 ^ k) :: big k n := rfl
def bigRow (m wd n : Nat) : Array Value := (List.replicate m (Value.int .u8 0) ++ (big (wd - m) n).map byteV).toArray
theorem bigRow_set (m wd n : Nat) (h : m + 1 ≤ wd) : (bigRow (m + 1) wd n).setIfInBounds m (byteV (UInt8.ofNat (n / 256 ^ (wd - (m + 1))))) = bigRow m wd n := by
  unfold bigRow
  rw [List.setIfInBounds_toArray, show wd - m = (wd - (m + 1)) + 1 by omega, big_step]
  congr 1
  rw [List.set_append_left _ _ (by simp), List.replicate_succ', List.set_append_right _ _ (by simp)]
  simp
theorem bigRow_at (m wd n : Nat) : (bigRow (m + 1) wd n)[m]? = some (.int .u8 0) := by
  unfold bigRow
  rw [List.getElem?_toArray, List.getElem?_append_left (by simp)]
  simp
theorem bigRow_none (wd n : Nat) : bigRow 0 wd n = ((big wd n).map byteV).toArray := by simp [bigRow]
theorem bigRow_all (wd n : Nat) : bigRow wd wd n = (List.replicate wd (Value.int .u8 0)).toArray := by simp [bigRow, big]

set_option maxHeartbeats 1000000 in
set_option maxRecDepth 100000 in
theorem Big_any (n wd : Nat) (h8 : wd ≤ 8) (hn : n ≤ 140737488355328) (W : World) : Calls Try.prog 97 #[.int .i64 n, .int .i64 wd] W fun e w' => e = .returned (.slice (some ⟨W.heap.size, 0, none⟩) wd wd) ∧ w'.heap[W.heap.size]? = some (.cells ((big wd n).map byteV).toArray 5 (0, 0)) ∧ Below W.heap.size W w' := by
  obtain ⟨i0, hi, hz0, hz1, hz2⟩ := info_parts info_u8
  have hmk : ∀ W : World, (Instr.makeSlice 37 (.int .i64 (wd : Int)) (.int .i64 (wd : Int))).run Try.prog W = .ok (.slice (some ⟨W.heap.size, 0, none⟩) wd wd) (W.alloc (.cells (bigRow wd wd n) 5)) := fun W => by
    have h := run_make (P := Try.prog) W 37 5 i0 (.int .u8 0) Try.underlying37 hi hz0 .i64 .i64 (wd : Int) (wd : Int) (by omega) (by omega) (by rw [hz2]; omega) (by omega)
    have e : madeCells (Value.int .u8 0).cells (((wd : Nat) : Int).toNat * i0.size) = bigRow wd wd n := by
      rw [bigRow_all, hz1, Nat.mul_one, Int.toNat_natCast]
      apply Array.toList_inj.1
      exact toList_madeCells_one _ _
    rw [e] at h
    simpa using h
  have HN := Lib.hid (bigRow_none wd n)
  have hst := Lib.hid (bigRow_set · wd n)
  have hat := Lib.hid (bigRow_at · wd n)
  have r0 := row_new (w := W) (k := W.heap.size) (.cells (bigRow wd wd n) 5 (0, 0)) rfl
  have b0 : Below W.heap.size W (W.alloc (.cells (bigRow wd wd n) 5)) := Below.alloc (Below.refl _ _) (Nat.le_refl _) _
  have H0 : Hid (Value.int .i64 (n : Int) = .int .i64 ((n / 256 ^ (wd - wd) : Nat) : Int)) := Lib.hid (by simp)
  have H1 : Hid ((wd : Int) - 1 = ((wd : Nat) : Int) - 1) := Lib.hid rfl
  clear hi hz0 hz1 hz2
  go_enter Try.func97, Try.ntmps97
  go_wp2_with fail
  clear hmk
  generalize W.alloc (.cells (bigRow wd wd n) 5) = W0 at *
  go_loopw [0, 6] (fun v i wr => ∃ (m : Nat) (s : Int) (q : Nat), i = .int .i64 s ∧ s = (m : Int) - 1 ∧ m ≤ wd ∧ v = .int .i64 q ∧ Hid (q = n / 256 ^ (wd - m)) ∧ wr.heap[W.heap.size]? = some (.cells (bigRow m wd n) 5 (0, 0)) ∧ Below W.heap.size W wr) (fun _ i _ => (intOf i + 1).toNat)
  case atStart => exact ⟨wd, _, n, rfl, rfl, Nat.le_refl _, rfl, Lib.hid (by simp), r0, b0⟩
  case round =>
    obtain ⟨m, s, q, rfl, hs, hm, rfl, hq, hr, hB⟩ := hrel
    clear r0 b0 H0 H1
    have hqn : q ≤ 140737488355328 := by
      have := Nat.div_le_self n (256 ^ (wd - m))
      rw [← hq.out] at this
      omega
    by_cases hm0 : 1 ≤ m
    · obtain ⟨k, rfl⟩ : ∃ k, m = k + 1 := ⟨m - 1, by omega⟩
      obtain rfl : s = (k : Int) := by omega
      have there : wr.cell? ⟨W.heap.size, k, none⟩ = some (.int .u8 0) := (cell_of_row _ _ k _ _ _ hr).trans (hat.out k)
      have fz : wr.frozen? ⟨W.heap.size, k, none⟩ = false := frozen_of_row _ _ k _ _ hr
      have hv : (Value.int .u8 ((q : Int) % 256)) = byteV (UInt8.ofNat (n / 256 ^ (wd - (k + 1)))) := by
        rw [← hq.out]; simp [byteV]
      have hr2 := row_set (w := wr) (g := W.heap.size) (i := k) (.int .u8 ((q : Int) % 256)) hr
      rw [hv, hst.out k hm, ← hv] at hr2
      have hB2 : Below W.heap.size W (wr.setCell ⟨W.heap.size, k, none⟩ (.int .u8 ((q : Int) % 256))) := Below.setCell hB (Nat.le_refl _) _
      have HQ : Hid (q / 256 = n / 256 ^ (wd - k)) := Lib.hid (by rw [hq.out, show wd - k = (wd - (k + 1)) + 1 by omega, Nat.pow_succ, Nat.div_div_eq_div_mul])
      have HR2 := Lib.hid hr2
      clear hr hr2 hv hB hq hs
      go_wp2_with fail
      go_roundw
      case rel => exact ⟨k, _, q / 256, rfl, by omega, by omega, by simp, HQ, HR2.out, hB2⟩
      case measure => simp [intOf] <;> omega
    · obtain rfl : m = 0 := by omega
      have hneg : ¬ 0 ≤ s := by omega
      rw [HN.out] at hr
      have HR := Lib.hid hr
      clear hr hq hs
      go_wp2_with fail
      go_ret
      exact ⟨rfl, HR.out, hB⟩
end Go.Proofs.Ytbeggckkgaoacaa
namespace Go.Proofs.Ytbeggckkgaoacaa
open Go.RowKit
set_option linter.unusedVariables false
set_option maxRecDepth 100000

def OwnR (w : World) (base : Nat) (v : Value) (l : Bs) : Prop := w.ownsRow base 5 1 v l.length (l.map byteV)
theorem OwnR.ownB {w : World} {base : Nat} {v : Value} {l : Bs} (h : OwnR w base v l) : OwnB w base v l := OwnB.of (l := l) h rfl
theorem OwnR.below {w w' : World} {base : Nat} {v : Value} {l : Bs} (h : OwnR w base v l) (hB : Below w.heap.size w w') : OwnR w' base v l := ownsRow_below h hB (Nat.le_refl _)
theorem OwnR.drew {w : World} {base : Nat} {v : Value} {l : Bs} (h : OwnR w base v l) : OwnR w.drew base v l := h.below (Below.drew (Below.refl _ _))
theorem OwnR.alloc {w : World} {base : Nat} {v : Value} {l : Bs} (h : OwnR w base v l) (o : Obj) : OwnR (w.alloc o) base v l := h.below (Below.alloc (Below.refl _ _) (Nat.le_refl _) _)
theorem strCells_bs (s : Bs) : Lib.strCells (bs s) = s.map byteV := by simp [Lib.strCells, byteV]
theorem OwnR.made {w : World} {base : Nat} {l : Bs} {cs : Array Value} (hb : base ≤ w.heap.size) (hc : cs = (l.map byteV).toArray) (hl : l.length ≤ maxLen) : OwnR (w.alloc (.cells cs 5)) base (.slice (some ⟨w.heap.size, 0, none⟩) l.length l.length) l := by
  subst hc
  exact ⟨by simp, .inr ⟨w.heap.size, l.length, _, rfl, hb, row_new _ rfl, Nat.le_refl _, hl, by simp, by simp [List.take_of_length_le]⟩⟩
theorem news_bys {w : World} {ad : Addr} {l : Bs} (hB : Bys w (some ad) l) : ∀ j u, (l.map byteV)[j]? = some u → w.cell? (ad.add j) = some u := fun j u hj => by
  rw [List.getElem?_map] at hj
  cases hl : l[j]? with
  | none => rw [hl] at hj; cases hj
  | some b =>
    rw [hl] at hj
    injection hj with hj
    obtain ⟨hjl, hjb⟩ := List.getElem?_eq_some_iff.1 hl
    obtain ⟨g, off, hp, hcs⟩ := hB (by omega)
    injection hp with hp
    subst hp
    rw [show (⟨g, off, none⟩ : Addr).add j = ⟨g, off + j, none⟩ by unfold Addr.add; split <;> simp_all]
    rw [hcs j hjl, hjb, ← hj]
    rfl
theorem run_appR {w : World} {base : Nat} {v : Value} {l : Bs} (ty : TypeId) (hown : OwnR w base v l) (ad : Addr) (c m : Nat) (news : Bs) (hm : m = news.length) (hB : Bys w (some ad) news) (hlen : l.length + news.length ≤ 140737488355328) (hbase : base ≤ w.heap.size) :
    ∃ v' w', (Builtin.append_ #[37, 37] ty #[v, .slice (some ad) m c]).run Try.prog w = .ok v' w' ∧ OwnR w' base v' (l ++ news) ∧ w.grownBy w' v.ownBlock := by
  obtain ⟨i0, hi, hz0, hz1, hz2⟩ := info_parts info_u8
  obtain ⟨v', w', h0, h1, h2, _⟩ := run_append_own_at (P := Try.prog) w base 37 ty 5 i0 (.int .u8 0) 1 1 Try.underlying37 hi hz0 hz1 hz2 rfl (by decide) v l.length (l.map byteV) hown ad m c (news.map byteV) (by simp [hm]) (news_bys hB) (fun u hu => by obtain ⟨b, _, rfl⟩ := List.mem_map.1 hu; rfl) (by unfold maxLen; omega) (by omega) hbase
  exact ⟨v', w', h0, by unfold OwnR; rw [List.length_append, List.map_append, ← hm]; exact h1, h2⟩
theorem run_appS {w : World} {base : Nat} {v : Value} {l : Bs} (ty : TypeId) (hown : OwnR w base v l) (s : Bs) (hlen : l.length + s.length ≤ 140737488355328) (hbase : base ≤ w.heap.size) :
    ∃ v' w', (Builtin.append_ #[37, 9] ty #[v, .string (bs s)]).run Try.prog w = .ok v' w' ∧ OwnR w' base v' (l ++ s) ∧ w.grownBy w' v.ownBlock := by
  obtain ⟨i0, hi, hz0, hz1, hz2⟩ := info_parts info_u8
  obtain ⟨v', w', h0, h1, h2, _⟩ := Lib.run_append_own_string (P := Try.prog) w base 37 9 ty 5 i0 Try.underlying37 Try.underlying9 hi hz0 hz1 hz2 v l.length (l.map byteV) hown (bs s) (by rw [bs_size]; unfold maxLen; omega) (by rw [bs_size]; omega) hbase
  exact ⟨v', w', h0, by unfold OwnR; rw [List.length_append, List.map_append, ← strCells_bs, ← bs_size s]; exact h1, h2⟩
section
variable {ops : Array Oper} {o : Oper} {a : Act} {w : World} {K : Act → World → Prop} {Q : Exit → Act → World → Prop} {E : Prop}
theorem step_run (hgd : o.guard = none) (x y : Operand) (ts : Array TypeId) (ho : o.op = .call { callee := .builtin .append, args := #[x, y], argTypes := ts }) (u v : Value) (hs : a.eval x = u) (hx : a.eval y = v) {v' : Value} {w' : World}
    (hr : (Builtin.append_ ts o.type #[u, v]).run Try.prog w = .ok v' w') (h : K (a.put o.dst v') w') : if Region.wanted o (yielded ops a.tmps) = true then Oper.wp Try.prog o a w K Q else E := by
  have hw : Region.wanted o (yielded ops a.tmps) = true := by simp [Region.wanted, hgd]
  rw [if_pos hw]
  unfold Oper.wp execOp
  simp only [ho, resolve, invoke, builtin, Sem.run_bind, Sem.run_pure, Result.andThen_ok, List.map_toArray, List.map_cons, List.map_nil, hs, hx, hr]
  exact h
theorem step_app (hgd : o.guard = none) (x y : Operand) (ho : o.op = .call { callee := .builtin .append, args := #[x, y], argTypes := #[37, 37] }) (base : Nat) (v : Value) (l : Bs) (hs : a.eval x = v) (hown : OwnR w base v l)
    (ad : Addr) (m c : Nat) (hx : a.eval y = .slice (some ad) m c) (news : Bs) (hm : m = news.length) (hB : Bys w (some ad) news) (hlen : l.length + news.length ≤ 140737488355328) (hbase : base ≤ w.heap.size)
    (h : ∀ v' w', OwnR w' base v' (l ++ news) → w.grownBy w' v.ownBlock → K (a.put o.dst v') w') : if Region.wanted o (yielded ops a.tmps) = true then Oper.wp Try.prog o a w K Q else E := by
  obtain ⟨v', w', hr, h1, h2⟩ := run_appR o.type hown ad c m news hm hB hlen hbase
  exact step_run hgd x y _ ho _ _ hs hx hr (h v' w' h1 h2)
theorem step_str (hgd : o.guard = none) (x y : Operand) (ho : o.op = .call { callee := .builtin .append, args := #[x, y], argTypes := #[37, 9] }) (base : Nat) (v : Value) (l : Bs) (hs : a.eval x = v) (hown : OwnR w base v l)
    (s : Bs) (hx : a.eval y = .string (bs s)) (hlen : l.length + s.length ≤ 140737488355328) (hbase : base ≤ w.heap.size)
    (h : ∀ v' w', OwnR w' base v' (l ++ s) → w.grownBy w' v.ownBlock → K (a.put o.dst v') w') : if Region.wanted o (yielded ops a.tmps) = true then Oper.wp Try.prog o a w K Q else E := by
  obtain ⟨v', w', hr, h1, h2⟩ := run_appS o.type hown s hlen hbase
  exact step_run hgd x y _ ho _ _ hs hx hr (h v' w' h1 h2)
end
section
variable {ops : Array Oper} {rest : List Oper} {o : Oper} {a : Act} {w : World} {Q : Exit → Act → World → Prop}
theorem wpList_appR (hgd : o.guard = none) (x y : Operand) (ho : o.op = .call { callee := .builtin .append, args := #[x, y], argTypes := #[37, 37] }) (base : Nat) (v : Value) (l : Bs) (hs : a.eval x = v) (hown : OwnR w base v l)
    (A : Option Addr) (m c : Nat) (hx : a.eval y = .slice A m c) (news : Bs) (hm : m = news.length) (hB : Bys w A news) (hA : A = none → c = 0) (hlen : l.length + news.length ≤ 140737488355328) (hbase : base ≤ w.heap.size)
    (h : ∀ v' w', OwnR w' base v' (l ++ news) → w.grownBy w' v.ownBlock → wpList Try.prog ops Q rest (a.put o.dst v') w') : wpList Try.prog ops Q (o :: rest) a w := by
  refine wpList_plain hgd fun K hK => ?_
  cases A with
  | none =>
    have hn : news = [] := by
      rcases news with _ | ⟨b, r⟩
      · rfl
      · obtain ⟨g, off, hp, _⟩ := hB (by simp)
        cases hp
    subst hn
    obtain rfl := hA rfl
    obtain rfl : m = 0 := hm
    have hrun := run_append_nilB o.type hown.ownB
    unfold Oper.wp execOp
    simp only [ho, resolve, invoke, builtin, Sem.run_bind, Sem.run_pure, Result.andThen_ok, List.map_toArray, List.map_cons, List.map_nil, hs, hx, hrun]
    exact hK _ _ (h v w (by simpa using hown) (grown_refl _ _))
  | some ad =>
    obtain ⟨v', w', hr, h1, h2⟩ := run_appR o.type hown ad c m news hm hB hlen hbase
    unfold Oper.wp execOp
    simp only [ho, resolve, invoke, builtin, Sem.run_bind, Sem.run_pure, Result.andThen_ok, List.map_toArray, List.map_cons, List.map_nil, hs, hx, hr]
    exact hK _ _ (h v' w' h1 h2)
end

/-- A row that stays below the base; all that lies below the base stays. -/
structure BX (W0 : World) (base p : Nat) (C : Array Value) (T : TypeId) (w : World) : Prop where
  row : w.heap[p]? = some (.cells C T (0, 0))
  lt : p < base
  big : base ≤ w.heap.size
  bel : Below base W0 w
theorem BX.on {W0 : World} {base p : Nat} {C : Array Value} {T : TypeId} {w w' : World} (h : BX W0 base p C T w) (hB : Below w.heap.size w w') : BX W0 base p C T w' :=
  ⟨(hB.block _ (Array.getElem?_eq_some_iff.1 h.row).1).trans h.row, h.lt, Nat.le_trans h.big hB.size, Below.trans h.bel (hB.mono h.big)⟩
theorem BX.drew {W0 : World} {base p : Nat} {C : Array Value} {T : TypeId} {w : World} (h : BX W0 base p C T w) : BX W0 base p C T w.drew := h.on (Below.drew (Below.refl _ _))
theorem BX.alloc {W0 : World} {base p : Nat} {C : Array Value} {T : TypeId} {w : World} (h : BX W0 base p C T w) (o : Obj) : BX W0 base p C T (w.alloc o) := h.on (Below.alloc (Below.refl _ _) (Nat.le_refl _) _)
theorem BX.gr {W0 : World} {base p : Nat} {C : Array Value} {T : TypeId} {w w' : World} {v : Value} {l : Bs} (hg : w.grownBy w' v.ownBlock) (ho : OwnR w base v l) (h : BX W0 base p C T w) : BX W0 base p C T w' :=
  ⟨(hg.block _ (Array.getElem?_eq_some_iff.1 h.row).1 (fun e => by have := (ho.ownB.lt _ e.symm).1; have := h.lt; omega)).trans h.row, h.lt, Nat.le_trans h.big hg.size, h.bel.grown hg h.big (fun g e => (ho.ownB.lt g e).1)⟩
end Go.Proofs.Ytbeggckkgaoacaa
namespace Go.Proofs.Ytbeggckkgaoacaa
open Go.RowKit
set_option linter.unusedVariables false
set_option maxRecDepth 100000

theorem OwnR.kept {w w' : World} {base : Nat} {v : Value} {l : Bs} {r : Option Nat} (h : OwnR w base v l) (hg : w.grownBy w' r) (hne : v.ownBlock = none ∨ v.ownBlock ≠ r) : OwnR w' base v l := World.ownsRow.kept h hg hne
theorem OwnR.lt {w : World} {base : Nat} {v : Value} {l : Bs} (h : OwnR w base v l) : ∀ k, v.ownBlock = some k → base ≤ k ∧ k < w.heap.size := h.ownB.lt
theorem OwnR.mono {w : World} {base base' : Nat} {v : Value} {l : Bs} (h : OwnR w base v l) (hb : base' ≤ base) : OwnR w base' v l := by
  refine ⟨h.1, ?_⟩
  rcases h.2 with h | ⟨g, cap, cur, hv, hg, r⟩
  · exact .inl h
  · exact .inr ⟨g, cap, cur, hv, by omega, r⟩
/-- Bytes in a block of bytes. -/
def BysT (w : World) (A : Option Addr) (l : Bs) : Prop := Bys w A l ∧ (0 < l.length → ∃ g off cs, A = some ⟨g, off, none⟩ ∧ w.heap[g]? = some (.cells cs 5 (0, 0)))
theorem OwnR.bysT {w : World} {base : Nat} {v : Value} {l : Bs} (h : OwnR w base v l) : ∃ A c, v = .slice A l.length c ∧ BysT w A l ∧ l.length ≤ c ∧ c ≤ maxLen ∧ (A = none → c = 0) := by
  obtain ⟨A, c, hv, hB, hle, hm⟩ := h.ownB.bys
  refine ⟨A, c, hv, ⟨hB, fun hn => ?_⟩, hle, hm, fun hA => ?_⟩
  · rcases h.2 with ⟨hv2, h0⟩ | ⟨g, cap, cur, hv2, hg, hh, _⟩
    · omega
    · rw [hv] at hv2
      injection hv2 with e1
      exact ⟨g, 0, cur, e1, hh⟩
  · rcases h.2 with ⟨hv2, h0⟩ | ⟨g, cap, cur, hv2, _⟩
    · rw [hv] at hv2
      injection hv2
    · rw [hv] at hv2
      injection hv2 with e1
      rw [hA] at e1
      cases e1
/-- Slices of bytes in a block of slices, each in a block of bytes. -/
def ByssT (w : World) (A : Option Addr) (L : List Bs) : Prop := 0 < L.length → ∃ g off cs, A = some ⟨g, off, none⟩ ∧ w.heap[g]? = some (.cells cs 37 (0, 0)) ∧ ∀ j (h : j < L.length), ∃ a c, w.cell? ⟨g, off + j, none⟩ = some (.slice a (L[j]).length c) ∧ BysT w a L[j] ∧ (L[j]).length ≤ c ∧ c ≤ 9223372036854775807 ∧ (a = none → c = 0)
theorem ByssT.byss {w : World} {A : Option Addr} {L : List Bs} (h : ByssT w A L) : Byss w A L := fun hn => by
  obtain ⟨g, off, cs, h1, h2, h3⟩ := h hn
  refine ⟨g, off, h1, fun j hj => ?_⟩
  obtain ⟨a, c, h4, h5, h6⟩ := h3 j hj
  exact ⟨a, c, h4, h5.1, h6⟩
theorem BysT.kept {w w' : World} {A : Option Addr} {l : Bs} (h : BysT w A l) (hk : ∀ (g : Nat) (cs : Array Value), w.heap[g]? = some (.cells cs 5 (0, 0)) → w'.heap[g]? = w.heap[g]?) : BysT w' A l := by
  refine ⟨fun hn => ?_, fun hn => ?_⟩
  · obtain ⟨g, off, cs, hA, hh⟩ := h.2 hn
    obtain ⟨g2, off2, hA2, hc⟩ := h.1 hn
    rw [hA] at hA2
    injection hA2 with hA2
    injection hA2 with e1 e2
    subst e1 e2
    exact ⟨g, off, hA, fun j hj => (World.cell?_of_block (a := ⟨g, off + j, none⟩) (hk g cs hh)).trans (hc j hj)⟩
  · obtain ⟨g, off, cs, hA, hh⟩ := h.2 hn
    exact ⟨g, off, cs, hA, (hk g cs hh).trans hh⟩
theorem ByssT.kept {w w' : World} {A : Option Addr} {L : List Bs} (h : ByssT w A L) (hk : ∀ (g : Nat) (cs : Array Value) (t : TypeId), t = 5 ∨ t = 37 → w.heap[g]? = some (.cells cs t (0, 0)) → w'.heap[g]? = w.heap[g]?) : ByssT w' A L := fun hn => by
  obtain ⟨g, off, cs, h1, h2, h3⟩ := h hn
  refine ⟨g, off, cs, h1, (hk g cs _ (.inr rfl) h2).trans h2, fun j hj => ?_⟩
  obtain ⟨a, c, h4, h5, h6⟩ := h3 j hj
  exact ⟨a, c, (World.cell?_of_block (a := ⟨g, off + j, none⟩) (hk g cs _ (.inr rfl) h2)).trans h4, h5.kept (fun g cs => hk g cs _ (.inl rfl)), h6⟩
theorem ByssT.on {w w' : World} {A : Option Addr} {L : List Bs} (h : ByssT w A L) (hB : Below w.heap.size w w') : ByssT w' A L := h.kept (fun g cs t _ hh => hB.block _ (Array.getElem?_eq_some_iff.1 hh).1)
theorem ByssT.setRow {w : World} {A : Option Addr} {L : List Bs} {p : Nat} {C C' : Array Value} (h : ByssT w A L) (hp : w.heap[p]? = some (.cells C 100 (0, 0))) : ByssT (w.setRow p C') A L := h.kept (fun g cs t ht hh => setRow_other w p g C' (fun e => by
  subst e
  rw [hp] at hh
  injection hh with hh
  injection hh with _ hh _
  rcases ht with ht | ht <;> (rw [ht] at hh; revert hh; decide)))

/-- Slices of bytes that the call made, none in the block u. -/
def RowsR (w : World) (base : Nat) (u : Option Nat) (xs : List Value) (M : List Bs) : Prop := xs.length = M.length ∧ ∀ j (h : j < M.length), ∃ v, xs[j]? = some v ∧ OwnR w base v M[j] ∧ (v.ownBlock = none ∨ v.ownBlock ≠ u)
theorem RowsR.nil {w : World} {base : Nat} {u : Option Nat} : RowsR w base u [] [] := ⟨rfl, fun j h => absurd h (by simp)⟩
theorem RowsR.kept {w w' : World} {base : Nat} {u : Option Nat} {xs : List Value} {M : List Bs} (h : RowsR w base u xs M) (hg : w.grownBy w' u) : RowsR w' base u xs M :=
  ⟨h.1, fun j hj => by
    obtain ⟨v, h1, h2, h3⟩ := h.2 j hj
    exact ⟨v, h1, OwnR.kept h2 hg h3, h3⟩⟩
theorem RowsR.far {w w' : World} {base : Nat} {u r : Option Nat} {xs : List Value} {M : List Bs} (h : RowsR w base u xs M) (hg : w.grownBy w' r) (hr : ∀ k, r = some k → k < base) : RowsR w' base u xs M :=
  ⟨h.1, fun j hj => by
    obtain ⟨v, h1, h2, h3⟩ := h.2 j hj
    refine ⟨v, h1, OwnR.kept h2 hg ?_, h3⟩
    cases hv : v.ownBlock with
    | none => exact .inl rfl
    | some k =>
      refine .inr fun e => ?_
      have := hr k e.symm
      have := (OwnR.lt h2 k hv).1
      omega⟩
theorem RowsR.below {w w' : World} {base : Nat} {u : Option Nat} {xs : List Value} {M : List Bs} (h : RowsR w base u xs M) (hB : Below w.heap.size w w') : RowsR w' base u xs M := h.kept (grown_of_below hB u)
theorem RowsR.step {w w' : World} {base : Nat} {u u' : Option Nat} {xs : List Value} {M : List Bs} (h : RowsR w base u xs M) (hg : w.grownBy w' u) (hu : u' = u ∨ u' = some w.heap.size) : RowsR w' base u' xs M := by
  refine ⟨h.1, fun j hj => ?_⟩
  obtain ⟨v, h1, h2, h3⟩ := h.2 j hj
  refine ⟨v, h1, OwnR.kept h2 hg h3, ?_⟩
  rcases hu with rfl | rfl
  · exact h3
  · refine .inr fun he => ?_
    have := (OwnR.lt h2 _ he).2
    omega
theorem RowsR.snoc {w : World} {base : Nat} {u : Option Nat} {xs : List Value} {M : List Bs} {x : Bs} {v : Value} (h : RowsR w base u xs M) (hv : OwnR w base v x) (hn : v.ownBlock = none ∨ v.ownBlock ≠ u) : RowsR w base u (xs ++ [v]) (M ++ [x]) := by
  refine ⟨by simp [h.1], fun j hj => ?_⟩
  by_cases hjl : j < M.length
  · obtain ⟨v', h1, h2, h3⟩ := h.2 j hjl
    refine ⟨v', ?_, by rw [List.getElem_append_left hjl]; exact h2, h3⟩
    rw [List.getElem?_append_left (by rw [h.1]; exact hjl)]
    exact h1
  · have : j = M.length := by simp at hj; omega
    subst this
    refine ⟨v, ?_, by rw [List.getElem_append_right (Nat.le_refl _)]; simpa using hv, hn⟩
    rw [List.getElem?_append_right (by rw [h.1]; exact Nat.le_refl _), h.1]
    simp
/-- Slices of bytes in a row, all in memory that the call made. -/
theorem RowsR.byss {w : World} {base B n : Nat} {u : Option Nat} {v : Value} {xs : List Value} {M : List Bs} (ho : w.ownsRow B 37 1 v n xs) (h : RowsR w base u xs M) : n = M.length ∧ ∃ A c, v = .slice A M.length c ∧ ByssT w A M ∧ M.length ≤ c ∧ c ≤ 9223372036854775807 ∧ (A = none → c = 0) := by
  have hl : n = M.length := by have := ho.1; rw [h.1] at this; omega
  refine ⟨hl, ?_⟩
  rcases ho.2 with ⟨hv, h0⟩ | ⟨g, cap, cur, hv, hb, hh, hc, hm2, hsz, ht⟩
  · exact ⟨none, 0, by rw [hv, ← hl, h0], fun hn => by omega, by omega, by omega, fun _ => rfl⟩
  · refine ⟨_, cap, by rw [hv, hl], fun hn => ⟨g, 0, cur, rfl, hh, fun j hj => ?_⟩, by omega, by unfold maxLen at hm2; omega, fun h => by cases h⟩
    obtain ⟨v', h1, h2, h3⟩ := h.2 j hj
    obtain ⟨A, c, rfl, hB, hle, hmx, hnn⟩ := h2.bysT
    refine ⟨A, c, ?_, hB, hle, by unfold maxLen at hmx; omega, hnn⟩
    rw [cell_of_row _ g (0 + j) _ _ _ hh]
    rw [← ht, List.getElem?_take_of_lt (by omega)] at h1
    rw [Nat.zero_add]
    simpa using h1
theorem OwnR.empty (w : World) (base : Nat) (hb : base ≤ w.heap.size) : OwnR (w.alloc (.cells #[] 5)) base (.slice (some ⟨w.heap.size, 0, none⟩) 0 0) [] := OwnR.made (l := []) hb rfl (by simp [maxLen])

set_option maxHeartbeats 2000000 in
set_option maxRecDepth 100000 in
theorem dCopyT_any (s : St) (A : Option Addr) (c : Nat) (w : World) (hS : Byss w A s.ds) (hl : s.ds.length * 24 ≤ 140737488351232) (hd : ∀ x ∈ s.ds, x.length ≤ 140737488351232) :
    Calls Try.prog 16 #[.agg (stC s A c)] w fun e w' => ∃ A' c', e = .returned (.agg (stC s A' c')) ∧ ByssT w' A' s.ds ∧ s.ds.length ≤ c' ∧ c' ≤ 9223372036854775807 ∧ (A' = none → c' = 0) ∧ Below w.heap.size w w' := by
  obtain ⟨i0, hi, hz0, hz1, hz2⟩ := info_parts info_slb
  obtain ⟨sn, st, sc, sr, sk, se, sz, L⟩ := s
  simp only [stC, stL] at *
  obtain ⟨n, hn⟩ : ∃ n, n = L.length := ⟨_, rfl⟩
  rw [← hn]
  rw [← hn] at hl
  have HN := Lib.hid hn
  have HD := Lib.hid hd
  clear hn hd
  have r1 := row_old (.cells #[.string ⟨#[]⟩, .int .i64 0, .int .i64 0, .int .i64 0, .int .i64 0, .int .i64 0, .string ⟨#[]⟩, .slice none 0 0] 29 (0, 0)) (row_new (w := w) (k := w.heap.size) (.cells #[.string (bs sn), .int .i64 st, .int .i64 sc, .int .i64 sr, .int .i64 sk, .int .i64 se, .string (bs sz), .slice A n c] 29 (0, 0)) rfl)
  have r2 := row_new (w := w.alloc (.cells #[.string (bs sn), .int .i64 st, .int .i64 sc, .int .i64 sr, .int .i64 sk, .int .i64 se, .string (bs sz), .slice A n c] 29 (0, 0))) (k := w.heap.size + 1) (.cells #[.string ⟨#[]⟩, .int .i64 0, .int .i64 0, .int .i64 0, .int .i64 0, .int .i64 0, .string ⟨#[]⟩, .slice none 0 0] 29 (0, 0)) (by simp)
  have b0 : Below w.heap.size w ((w.alloc (.cells #[.string (bs sn), .int .i64 st, .int .i64 sc, .int .i64 sr, .int .i64 sk, .int .i64 se, .string (bs sz), .slice A n c] 29 (0, 0))).alloc (.cells #[.string ⟨#[]⟩, .int .i64 0, .int .i64 0, .int .i64 0, .int .i64 0, .int .i64 0, .string ⟨#[]⟩, .slice none 0 0] 29 (0, 0))) := Below.alloc (Below.alloc (Below.refl _ _) (Nat.le_refl _) _) (by simp) _
  have s0 : w.heap.size + 1 < ((w.alloc (.cells #[.string (bs sn), .int .i64 st, .int .i64 sc, .int .i64 sr, .int .i64 sk, .int .i64 se, .string (bs sz), .slice A n c] 29 (0, 0))).alloc (.cells #[.string ⟨#[]⟩, .int .i64 0, .int .i64 0, .int .i64 0, .int .i64 0, .int .i64 0, .string ⟨#[]⟩, .slice none 0 0] 29 (0, 0))).heap.size := by simp
  have c7 := (cell_of_row _ _ 7 _ _ _ r1).trans (show _ = some (.slice A n c) from rfl)
  have hS0 := hS.on b0
  have R1 := Lib.hid r1
  have R2 := Lib.hid r2
  clear r1 r2 hS
  go_enter Try.func16, Try.ntmps16
  go_wp2_with fail
  generalize (w.alloc (.cells #[.string (bs sn), .int .i64 st, .int .i64 sc, .int .i64 sr, .int .i64 sk, .int .i64 se, .string (bs sz), .slice A n c] 29 (0, 0))).alloc (.cells #[.string ⟨#[]⟩, .int .i64 0, .int .i64 0, .int .i64 0, .int .i64 0, .int .i64 0, .string ⟨#[]⟩, .slice none 0 0] 29 (0, 0)) = W0 at *
  clear c7
  go_loopw [3, 9] (fun v3 v9 wr => ∃ (k : Nat) (xs : List Value), v9 = .int .i64 k ∧ k ≤ n ∧ wr.ownsRow W0.heap.size 37 1 v3 k xs ∧ RowsR wr W0.heap.size v3.ownBlock xs (L.take k) ∧ Below W0.heap.size W0 wr) (fun _ v9 _ => n - (intOf v9).toNat)
  case atStart => exact ⟨0, [], rfl, by omega, World.ownsRow_nil _ _ _ _, RowsR.nil, Below.refl _ _⟩
  case round =>
    obtain ⟨k, xs, rfl, hk, hown, hrows, hB⟩ := hrel
    by_cases hlt : k < n
    · have hlt' : (k : Int) < (n : Int) := by omega
      have kL : k < L.length := by have := HN.out; omega
      obtain ⟨g1, o1, rfl, hc1⟩ := id hS0 (by omega)
      obtain ⟨a1, d1, C1, D1, hd1, hm1, hn1⟩ := hc1 k kL
      have C1' := cell_on C1 hB
      have D1' := D1.on hB
      have hxd := HD.out L[k] (List.getElem_mem kL)
      have htk : L.take (k + 1) = L.take k ++ [L[k]] := List.take_succ_eq_append_getElem kL
      generalize L[k] = x at *
      have HT := Lib.hid htk
      have hsz := hB.size
      have D2 := Lib.hid (D1'.on (Below.alloc (Below.refl wr.heap.size wr) (Nat.le_refl _) (.cells #[] 5)))
      have E2 := Lib.hid (OwnR.empty wr wr.heap.size (Nat.le_refl _))
      have HM1 := Lib.hid hn1
      have HO := Lib.hid hown
      have HR := Lib.hid hrows
      have HB := Lib.hid hB
      have HX : Hid (0 + x.length ≤ 140737488355328) := Lib.hid (by omega)
      clear htk C1 D1 D1' hc1 hS0 hown hrows hB hn1 hd1 hm1 hxd
      go_wp2_with (first
        | (at_builtin; refine wpList_appR rfl _ _ rfl wr.heap.size _ [] rfl E2.out a1 x.length d1 rfl x rfl D2.out HM1.out HX.out (by simp) ?_)
        | fail)
      intro v' w1 ho1 hg1
      obtain ⟨A9, c9, rfl, Y9, Y8, Y7⟩ := ho1.ownB.bys
      clear Y9 Y8 Y7
      have g01 : wr.grownBy w1 none := grown_trans (grown_alloc wr _ none) hg1 (fun k hk => by simp [Value.ownBlock] at hk; exact .inr (by omega))
      have hown1 := HO.out.kept g01 (by cases hv : u3.ownBlock <;> simp)
      have hrows1 := HR.out.below (w' := w1) ⟨g01.os, g01.tape, g01.output, g01.size, fun k hk => g01.block k hk (by simp)⟩
      have hB1 : Below W0.heap.size W0 w1 := Below.trans HB.out (Below.mono ⟨g01.os, g01.tape, g01.output, g01.size, fun k hk => g01.block k hk (by simp)⟩ hsz)
      have hlt3 := fun g e => (HO.out.lt g e).2
      have hge1 := fun g e => (OwnR.lt ho1 g e).1
      have sz1 := g01.size
      have ho1' : OwnR w1 W0.heap.size (Value.slice A9 x.length c9) x := ho1.mono hsz
      have hne : (Value.slice A9 x.length c9).ownBlock = none ∨ (Value.slice A9 x.length c9).ownBlock ≠ u3.ownBlock := by
        cases hv : (Value.slice A9 x.length c9).ownBlock with
        | none => exact .inl rfl
        | some g => exact .inr (fun e => by have h1 := hge1 g hv; have h2 := hlt3 g e.symm; omega)
      have H1 := Lib.hid hown1
      have HR1 := Lib.hid hrows1
      have HO1 := Lib.hid ho1'
      have HNE := Lib.hid hne
      have HB1 := Lib.hid hB1
      have sw1 := hB1.size
      clear ho1 hg1 g01 hown1 hrows1 hB1 hlt3 hge1 ho1' hne HO HR HB E2 D2 HX HM1
      go_wp2_with (first
        | (at_builtin; refine wpList_append_at rfl _ _ 27 rfl W0.heap.size 37 i0 (.slice none 0 0) 1 24 Try.underlying27 hi hz0 hz1 hz2 rfl (by decide) _ k xs rfl (ownsRow_below H1.out (Below.alloc (Below.refl w1.heap.size w1) (Nat.le_refl _) _) (Nat.le_refl _)) ⟨w1.heap.size, 0, none⟩ 1 1 [(Value.slice A9 x.length c9)] rfl rfl (World.news_of_block (cs := #[(Value.slice A9 x.length c9)]) (t := 37) (fr := (0, 0)) (row_new _ rfl)) (by intro u hu; rw [List.mem_singleton.1 hu]; rfl) (by unfold maxLen; omega) (by omega) (by simp; omega) ?_)
        | fail)
      intro v2 w2 hown2 hg2 hf2
      have ba := Below.alloc (Below.refl w1.heap.size w1) (Nat.le_refl _) (.cells #[(Value.slice A9 x.length c9)] 37 (0, 0))
      have hr2 := ((HR1.out.below ba).snoc (OwnR.below HO1.out ba) HNE.out).step (u' := v2.ownBlock) hg2 (by simpa using hf2)
      have hlt2 := fun g e => (H1.out.lt g e).1
      have hB2 : Below W0.heap.size W0 w2 := Below.grown (Below.alloc HB1.out sw1 _) hg2 (by simp; omega) hlt2
      have HH := Lib.hid hown2
      rw [← HT.out] at hr2
      have HRR := Lib.hid hr2
      clear hown2 hg2 hf2 hr2 ba H1 HR1 HO1 HNE HB1 hlt2
      go_wp2_with fail
      go_roundw
      case rel => exact ⟨k + 1, _, by go_num, by omega, HH.out, HRR.out, hB2⟩
      case measure => simp [intOf]; omega
    · have hlt' : ¬ (k : Int) < (n : Int) := by omega
      obtain rfl : k = n := by omega
      have htk : L.take k = L := by rw [HN.out, List.take_length]
      rw [htk] at hrows
      have szr := hB.size
      have hlt3 := fun g e => (hown.lt g e).1
      obtain ⟨-, A', c', hv3, -, hc1, hc2, hc3⟩ := RowsR.byss hown hrows
      rw [← HN.out] at hv3
      subst hv3
      have r1 := (hB.block _ (by omega)).trans R1.out
      have r2 := (hB.block _ (by omega)).trans R2.out
      rw [← HN.out] at hc1
      have there : wr.cell? ⟨w.heap.size, 7, none⟩ = some (.slice A k c) := (cell_of_row _ _ 7 _ _ _ r1).trans rfl
      have fz : wr.frozen? ⟨w.heap.size, 7, none⟩ = false := frozen_of_row _ _ 7 _ _ r1
      have gs : wr.grownBy (wr.setCell ⟨w.heap.size, 7, none⟩ (.slice A' k c')) (some w.heap.size) := by
        have := grownBy_setCells w.heap.size [.slice A' k c'] 7 wr
        simpa [World.setCells] using this
      have r1' := row_set (w := wr) (g := w.heap.size) (i := 7) (.slice A' k c') r1
      rw [show (#[.string (bs sn), .int .i64 st, .int .i64 sc, .int .i64 sr, .int .i64 sk, .int .i64 se, .string (bs sz), .slice A k c] : Array Value).setIfInBounds 7 (.slice A' k c') = #[.string (bs sn), .int .i64 st, .int .i64 sc, .int .i64 sr, .int .i64 sk, .int .i64 se, .string (bs sz), .slice A' k c'] from rfl] at r1'
      have r2' := (gs.block (w.heap.size + 1) (by omega) (by simp)).trans r2
      have hown2 := hown.kept gs (by
        cases hv : (Value.slice A' k c').ownBlock with
        | none => exact .inl rfl
        | some g => exact .inr (fun e => by injection e with e; have := hlt3 g hv; omega))
      have hrows2 := hrows.far gs (fun g e => by injection e with e; omega)
      have bw0 : Below w.heap.size w wr := Below.trans b0 (hB.mono (by omega))
      have bw1 : Below w.heap.size w (wr.setCell ⟨w.heap.size, 7, none⟩ (.slice A' k c')) := Below.setCell bw0 (Nat.le_refl _) _
      have sz1 : (wr.setCell ⟨w.heap.size, 7, none⟩ (.slice A' k c')).heap.size = wr.heap.size := by simp
      obtain ⟨l1, hl1⟩ : ∃ l : Array Value, l = #[.string (bs sn), .int .i64 st, .int .i64 sc, .int .i64 sr, .int .i64 sk, .int .i64 se, .string (bs sz), .slice A' k c'] := ⟨_, rfl⟩
      have I1 : Hid ((Try.prog.info? 29).map (·.size) = some l1.size) := Lib.hid (by rw [hl1]; exact info_st)
      have O1 : Hid (l1.all (·.oneCell') = true) := Lib.hid (by rw [hl1]; simp [Value.oneCell'])
      have Z1 : Hid ((#[.string ⟨#[]⟩, .int .i64 0, .int .i64 0, .int .i64 0, .int .i64 0, .int .i64 0, .string ⟨#[]⟩, .slice none 0 0] : Array Value).size = l1.size) := Lib.hid (by rw [hl1]; rfl)
      rw [← hl1] at r1'
      have HL1 := Lib.hid hl1
      obtain ⟨W1, hW1⟩ : ∃ W1, W1 = wr.setCell ⟨w.heap.size, 7, none⟩ (.slice A' k c') := ⟨_, rfl⟩
      rw [← hW1] at r1' r2' hown2 hrows2 bw1 sz1
      have HW1 := Lib.hid hW1
      have g2 := grownBy_setRow (w := W1) (g := w.heap.size + 1) l1
      have hown3 := hown2.kept g2 (by
        cases hv : (Value.slice A' k c').ownBlock with
        | none => exact .inl rfl
        | some g => exact .inr (fun e => by injection e with e; have := hlt3 g hv; omega))
      have hrows3 := hrows2.far g2 (fun g e => by injection e with e; omega)
      have bw2 : Below w.heap.size w (W1.setRow (w.heap.size + 1) l1) := Below.setRow bw1 (by omega) _
      have HF : Hid (ByssT (W1.setRow (w.heap.size + 1) l1) A' L) := Lib.hid (by
        obtain ⟨_, A2, c2, he, hby, _⟩ := RowsR.byss hown3 hrows3
        injection he with e1
        subst e1
        exact hby)
      have rF := setRow_heap _ _ _ l1 _ _ r2'
      have R1' := Lib.hid r1'
      have HC := Lib.hid hc3
      clear hown hrows hown2 hrows2 hown3 hrows3 gs g2 hlt3 hB hS0 htk r1 r2 bw0 bw1 hW1 hl1 r1' hc3
      go_wp2_with (first
        | (refine wpList_load_row rfl 29 (.tmp 1) rfl w.heap.size rfl 29 l1 (0, 0) _ (by rw [← HW1.out]; exact R1'.out) Try.underlying29 rfl I1.out ?_; rw [← HW1.out])
        | (refine wpList_store_row rfl 29 (.tmp 2) (.tmp 22) rfl (w.heap.size + 1) l1 rfl rfl 29 _ r2' I1.out (by first | exact Z1.out | exact Z1.out.symm) O1.out ?_)
        | fail)
      refine bodyPost_ret (v := .agg l1) (results_cell_row (fn := Try.f16) (p := 2) (ty := 29) (by kernel_rfl) _ _ (w.heap.size + 1) 29 l1 (0, 0) _ rfl rF Try.underlying29 rfl I1.out) rfl ?_
      exact ⟨A', c', by rw [HL1.out], HF.out, hc1, hc2, HC.out, bw2⟩
end Go.Proofs.Ytbeggckkgaoacaa
namespace Go.Proofs.Ytbeggckkgaoacaa
open Go.RowKit
set_option linter.unusedVariables false
set_option maxRecDepth 100000

theorem slice_bysN (A : Option Addr) (l : Bs) (c k : Nat) (i : Int) (w : World) (hS : Bys w A l) (hk : k ≤ l.length) (hc : l.length ≤ c) (hi : i = k) (hn : A = none → c = 0) : ∃ A', (∀ w : World, (Instr.slice 37 (.slice A l.length c) (some (.int .i64 i)) none none).run Try.prog w = .ok (.slice A' (l.drop k).length (c - k)) w) ∧ Bys w A' (l.drop k) ∧ (l.drop k).length ≤ c - k ∧ (A' = none → c - k = 0) := by
  subst hi
  refine ⟨_, fun w => ?_, hS.cut (k := k) hc, by rw [List.length_drop]; omega, fun h => ?_⟩
  · rw [run_slice_l w 37 A l.length c (by rw [elem_bytes]; exact Try.underlying37) _ _ (by omega) (by omega), elem_bytes, size_u8]
    simp [sliced]
  · split at h
    · omega
    · cases A with
      | none => have := hn rfl; omega
      | some a => cases h
/-- Bytes of the argument, a slice of them. -/
structure Sl (W0 : World) (A : Option Addr) (c : Nat) (l : Bs) : Prop where
  bys : Bys W0 A l
  le : l.length ≤ c
  max : c ≤ 9223372036854775807
  nil : A = none → c = 0
theorem Sl.none (W0 : World) : Sl W0 none 0 [] := ⟨fun h => absurd h (by simp), Nat.le_refl _, by omega, fun _ => rfl⟩
theorem Sl.on {W0 W1 : World} {A : Option Addr} {c : Nat} {l : Bs} (h : Sl W0 A c l) (hB : Below W0.heap.size W0 W1) : Sl W1 A c l := ⟨h.bys.on hB, h.le, h.max, h.nil⟩
theorem OwnB.bysN {w : World} {base : Nat} {v : Value} {l : Bs} (h : OwnB w base v l) : ∃ A c, v = .slice A l.length c ∧ Sl w A c l := by
  rcases h with ⟨rfl, rfl⟩ | ⟨g, cap, rfl, hb, hlt, hc, hm, hcs, hsp⟩
  · exact ⟨none, 0, rfl, Sl.none w⟩
  · exact ⟨_, cap, rfl, fun _ => ⟨g, 0, rfl, fun j hj => by rw [Nat.zero_add]; exact hcs j hj⟩, hc, by unfold maxLen at hm; omega, fun h => by cases h⟩
theorem Sl.made {w : World} {cs : Array Value} {t : TypeId} {l : Bs} (h : cs = (l.map byteV).toArray) (hl : l.length ≤ 9223372036854775807) : Sl (w.alloc (.cells cs t)) (some ⟨w.heap.size, 0, Option.none⟩) l.length l := by
  subst h
  exact ⟨fun _ => ⟨w.heap.size, 0, rfl, fun j hj => by rw [cell_of_row _ _ (0 + j) _ _ _ (row_new _ rfl)]; simp [byteV, hj]⟩, Nat.le_refl _, hl, fun h => by cases h⟩
theorem Sl.inside {w : World} {A : Option Addr} {c : Nat} {l : Bs} (h : Sl w A c l) : ∀ p, A = some p → 0 < l.length → p.block < w.heap.size := h.bys.inside
/-- 'b[k:k+m]', 'b[k:]'. -/
theorem Sl.mid {W0 : World} {A : Option Addr} {c : Nat} {l : Bs} (h : Sl W0 A c l) (k m : Nat) (i j : Int) (hk : k + m ≤ l.length) (hi : i = k) (hj : j = (k + m : Nat)) : ∃ A', (∀ w : World, (Instr.slice 37 (.slice A l.length c) (some (.int .i64 i)) (some (.int .i64 j)) Option.none).run Try.prog w = .ok (.slice A' ((l.drop k).take m).length (c - k)) w) ∧ Sl W0 A' (c - k) ((l.drop k).take m) := by
  subst hi
  subst hj
  have hle := h.le
  have hlm : ((l.drop k).take m).length = m := by rw [List.length_take, List.length_drop]; omega
  refine ⟨if c = k then A else A.map (·.add k), fun w => ?_, (h.bys.cut (k := k) hle).pre m, by rw [hlm]; omega, by have := h.max; omega, fun hn => ?_⟩
  · rw [run_slice_lh w 37 A l.length c (by rw [elem_bytes]; exact Try.underlying37) _ _ _ _ (by omega) (by omega) (by omega), elem_bytes, size_u8, hlm]
    simp [sliced]
    omega
  · split at hn
    · omega
    · cases A with
      | none => have := h.nil rfl; omega
      | some a => cases hn
theorem Sl.rest {W0 : World} {A : Option Addr} {c : Nat} {l : Bs} (h : Sl W0 A c l) (k : Nat) (i : Int) (hk : k ≤ l.length) (hi : i = k) : ∃ A', (∀ w : World, (Instr.slice 37 (.slice A l.length c) (some (.int .i64 i)) Option.none Option.none).run Try.prog w = .ok (.slice A' (l.drop k).length (c - k)) w) ∧ Sl W0 A' (c - k) (l.drop k) ∧ ∀ p, A' = some p → ∃ a, A = some a ∧ p.block = a.block := by
  subst hi
  have hle := h.le
  refine ⟨_, fun w => ?_, ⟨h.bys.cut (k := k) hle, by rw [List.length_drop]; omega, by have := h.max; omega, fun hn => ?_⟩, fun p hp => ?_⟩
  · rw [run_slice_l w 37 A l.length c (by rw [elem_bytes]; exact Try.underlying37) _ _ (by omega) (by omega), elem_bytes, size_u8]
    simp [sliced]
  · split at hn
    · omega
    · cases A with
      | none => have := h.nil rfl; omega
      | some a => cases hn
  · split at hp
    · exact ⟨p, hp, rfl⟩
    · cases A with
      | none => cases hp
      | some a =>
        injection hp with hp
        subst hp
        exact ⟨a, rfl, by unfold Addr.add; split <;> rfl⟩
theorem Sl.madeF {w : World} {cs : Array Value} {t : TypeId} {l : Bs} (fr : Nat × Nat) (h : cs = (l.map byteV).toArray) (hl : l.length ≤ 9223372036854775807) : Sl (w.alloc (.cells cs t fr)) (some ⟨w.heap.size, 0, Option.none⟩) l.length l := by
  subst h
  refine ⟨fun _ => ⟨_, 0, rfl, fun j hj => ?_⟩, Nat.le_refl _, hl, fun h => by cases h⟩
  have e : (w.alloc (.cells (l.map byteV).toArray t fr)).heap[w.heap.size]? = some (.cells (l.map byteV).toArray t fr) := by
    show (w.heap.push _)[w.heap.size]? = _
    simp
  rw [Nat.zero_add]
  unfold World.cell?
  rw [e]
  simp [byteV, hj]
theorem u64_modS (n : Int) : IntKind.u64.wrap n = n % 18446744073709551616 := by simp [IntKind.wrap, IntKind.bits, IntKind.signed]
/-- 'int(uint(n) % uint(m))'. -/
theorem rem_u64 (n : Int) (m : Nat) (h0 : 0 < m) (h1 : m ≤ 4611686018427387904) : ∃ q : Nat, Int.tmod (IntKind.u64.wrap n) (m : Int) = q ∧ q < m ∧ IntKind.u64.wrap (m : Int) = m ∧ IntKind.i64.wrap (q : Int) = q ∧ IntKind.u64.wrap (q : Int) = q := by
  have e0 : 0 ≤ IntKind.u64.wrap n := by rw [u64_modS]; omega
  have e2 := Int.tmod_lt_of_pos (IntKind.u64.wrap n) (show (0 : Int) < (m : Int) by omega)
  have e1 : 0 ≤ Int.tmod (IntKind.u64.wrap n) (m : Int) := Int.tmod_nonneg _ e0
  refine ⟨(Int.tmod (IntKind.u64.wrap n) (m : Int)).toNat, by omega, by omega, by rw [u64_modS]; omega, IntWalk.i64_in _ (by omega), by rw [u64_modS]; omega⟩
end Go.Proofs.Ytbeggckkgaoacaa
