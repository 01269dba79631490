/-
  The landed entry: what can be kept (keys, times, sizes, data).
-/
import Derived.Test.YtocbcobaodefgaaEnE
import Derived.Test.YtocbcobaodefgaaRcC
namespace Go.Proofs.Ytocbcobaodefgaa
open Go.RowKit
set_option linter.unusedVariables false
set_option maxRecDepth 100000

def shortN (n : Int) : Bool := decide (0 ≤ n) && decide (n ≤ 65535)
def canKeyS (s : St) : Bool := can s.n && (shortN s.t && shortN s.c)
def canTimeS (s : St) : Bool := decide (1 ≤ s.rk) && (decide (s.rk ≤ 3) && (decide (0 ≤ s.ex) && decide (s.ex ≤ 1099511627776)))
def dsz (L : List Bs) : Nat := (partsB 2 L).length
def fitsS (s : St) : Bool := decide (19 + s.n.length + s.z.length + dsz s.ds ≤ 4000)
def dataS (s : St) : Bool := s.ds.all (canD s.t) && decide (0 < s.ds.length)
def soaS (s : St) : Bool := can s.z && (s.ds.length == 1 && s.ds.all (canD 6))
def kindS (s : St) : Bool := if s.kd = 0 then s.t != 0 && (s.z.isEmpty && dataS s) else if s.kd = 1 then s.t != 0 && soaS s else if s.kd = 2 then s.t == 0 && soaS s else false
def canS (s : St) : Bool := canKeyS s && (canTimeS s && (fitsS s && kindS s))
theorem ret_bool {x y : Bool} (h : x = y) : Ending.returned (.bool x) = .returned (.bool y) := by rw [h]
theorem dsz_next {L : List Bs} {k : Nat} (h : k < L.length) : dsz (L.take (k + 1)) = dsz (L.take k) + 2 + (L[k]).length := by
  unfold dsz; rw [partsB_next 2 h]; simp [big_len]; omega
theorem dsz_le (L : List Bs) (k : Nat) : dsz (L.take k) ≤ dsz L := partsB_le 2 L k
theorem all_at {f : Bs → Bool} {L : List Bs} {k : Nat} (h : k < L.length) : (L.drop k).all f = (f L[k] && (L.drop (k + 1)).all f) := by
  rw [List.drop_eq_getElem_cons h]; rfl

theorem canNumber_any (n : Int) (w : World) : Calls Try.prog 89 #[.int .i64 n] w fun e w' => e = .returned (.bool (shortN n)) ∧ w = w' := by
  by_cases h0 : 0 ≤ n
  · by_cases h1 : n ≤ 65535
    · have HR : Hid (shortN n = true) := Lib.hid (by simp [shortN, h0, h1])
      go_enter Try.func89, Try.ntmps89
      go_wp2_with fail
      go_ret
      exact ⟨by rw [HR.out]; rfl, rfl⟩
    · have HR : Hid (shortN n = false) := Lib.hid (by simp [shortN, h1])
      go_enter Try.func89, Try.ntmps89
      go_wp2_with fail
      go_ret
      exact ⟨by rw [HR.out]; rfl, rfl⟩
  · have HR : Hid (shortN n = false) := Lib.hid (by simp [shortN, h0])
    go_enter Try.func89, Try.ntmps89
    go_wp2_with fail
    go_ret
    exact ⟨by rw [HR.out]; rfl, rfl⟩

set_option maxHeartbeats 1000000 in
theorem canKey_any (s : St) (A : Option Addr) (c : Nat) (w : World) : Calls Try.prog 68 #[.agg (stC s A c)] w fun e w' => e = .returned (.bool (canKeyS s)) ∧ Below w.heap.size w w' := by
  have r1 := row_new (w := w) (k := w.heap.size) (.cells (stC s A c) 26 (0, 0)) rfl
  have b0 : Below w.heap.size w (w.alloc (.cells (stC s A c) 26 (0, 0))) := Below.alloc (Below.refl _ _) (Nat.le_refl _) _
  obtain ⟨c0, c1, c2, c3, c4, c5, c6, c7⟩ := st_cell r1
  have E1 := Lib.hid (fun W => Can_any s.n W)
  have E2 := Lib.hid (fun W => canNumber_any s.t W)
  have E3 := Lib.hid (fun W => canNumber_any s.c W)
  have HR : Hid (canKeyS s = (can s.n && (shortN s.t && shortN s.c))) := Lib.hid rfl
  generalize canKeyS s = R at *
  generalize can s.n = k1 at *
  generalize shortN s.t = k2 at *
  generalize shortN s.c = k3 at *
  clear r1 c3 c4 c5 c6 c7
  generalize stC s A c = C at *
  go_enter Try.func68, Try.ntmps68
  go_wp2_with fail
  generalize w.alloc (.cells C 26) = W0 at *
  refine (E1.out _).mono ?_
  rintro e w1 ⟨rfl, b1⟩
  replace c1 := cell_on c1 b1
  replace c2 := cell_on c2 b1
  have bb := Below.trans b0 (b1.mono b0.size)
  clear b1 b0 E1 c0
  cases k1 with
  | false =>
    go_wp2_with fail
    go_ret
    exact ⟨by rw [HR.out]; rfl, bb⟩
  | true =>
    go_wp2_with fail
    refine (E2.out _).mono ?_
    rintro e w2 ⟨rfl, rfl⟩
    cases k2 with
    | false =>
      go_wp2_with fail
      go_ret
      exact ⟨by rw [HR.out]; rfl, bb⟩
    | true =>
      go_wp2_with fail
      refine (E3.out _).mono ?_
      rintro e w2 ⟨rfl, rfl⟩
      go_wp2_with fail
      go_ret
      exact ⟨by rw [HR.out]; rfl, bb⟩

set_option maxHeartbeats 1000000 in
theorem canTime_any (s : St) (A : Option Addr) (c : Nat) (w : World) : Calls Try.prog 77 #[.agg (stC s A c)] w fun e w' => e = .returned (.bool (canTimeS s)) ∧ Below w.heap.size w w' := by
  have r1 := row_new (w := w) (k := w.heap.size) (.cells (stC s A c) 26 (0, 0)) rfl
  have b0 : Below w.heap.size w (w.alloc (.cells (stC s A c) 26 (0, 0))) := Below.alloc (Below.refl _ _) (Nat.le_refl _) _
  obtain ⟨c0, c1, c2, c3, c4, c5, c6, c7⟩ := st_cell r1
  have HR : Hid (canTimeS s = (decide (1 ≤ s.rk) && (decide (s.rk ≤ 3) && (decide (0 ≤ s.ex) && decide (s.ex ≤ 1099511627776))))) := Lib.hid rfl
  generalize canTimeS s = R at *
  clear r1 c0 c1 c2 c4 c6 c7
  generalize stC s A c = C at *
  generalize s.rk = rk at *
  generalize s.ex = ex at *
  by_cases h0 : 1 ≤ rk
  case neg =>
    have HF : Hid (R = false) := Lib.hid (by rw [HR.out]; simp [h0])
    clear HR
    go_enter Try.func77, Try.ntmps77
    go_wp2_with fail
    go_ret
    exact ⟨by rw [HF.out]; rfl, b0⟩
  by_cases h1 : rk ≤ 3
  case neg =>
    have HF : Hid (R = false) := Lib.hid (by rw [HR.out]; simp [h1])
    clear HR
    go_enter Try.func77, Try.ntmps77
    go_wp2_with fail
    go_ret
    exact ⟨by rw [HF.out]; rfl, b0⟩
  by_cases h2 : 0 ≤ ex
  case neg =>
    have HF : Hid (R = false) := Lib.hid (by rw [HR.out]; simp [h2])
    clear HR
    go_enter Try.func77, Try.ntmps77
    go_wp2_with fail
    go_ret
    exact ⟨by rw [HF.out]; rfl, b0⟩
  by_cases h3 : ex ≤ 1099511627776
  case neg =>
    have HF : Hid (R = false) := Lib.hid (by rw [HR.out]; simp [h3])
    clear HR
    go_enter Try.func77, Try.ntmps77
    go_wp2_with fail
    go_ret
    exact ⟨by rw [HF.out]; rfl, b0⟩
  have HF : Hid (R = true) := Lib.hid (by rw [HR.out]; simp [h0, h1, h2, h3])
  clear HR
  go_enter Try.func77, Try.ntmps77
  go_wp2_with fail
  go_ret
  exact ⟨by rw [HF.out]; rfl, b0⟩

set_option maxHeartbeats 1000000 in
theorem fits_any (s : St) (A : Option Addr) (c : Nat) (w : World) (hS : Byss w A s.ds) (hn : s.n.length ≤ 140737488355328) (hz : s.z.length ≤ 140737488355328) (hd : ∀ x ∈ s.ds, x.length ≤ 140737488355328) (hm : s.ds.length ≤ 9223372036854775806) : Calls Try.prog 78 #[.agg (stC s A c)] w fun e w' => e = .returned (.bool (fitsS s)) ∧ Below w.heap.size w w' := by
  have r1 := row_new (w := w) (k := w.heap.size) (.cells (stC s A c) 26 (0, 0)) rfl
  have b0 : Below w.heap.size w (w.alloc (.cells (stC s A c) 26 (0, 0))) := Below.alloc (Below.refl _ _) (Nat.le_refl _) _
  obtain ⟨c0, c1, c2, c3, c4, c5, c6, c7⟩ := st_cell r1
  have HR : Hid (fitsS s = decide (19 + s.n.length + s.z.length + dsz s.ds ≤ 4000)) := Lib.hid rfl
  have z0 := bs_size s.n
  have z6 := bs_size s.z
  have hS0 := hS.on b0
  generalize fitsS s = R at *
  clear r1 c1 c2 c3 c4 c5 hS
  generalize stC s A c = C at *
  generalize s.n = sn at *
  generalize s.z = sz at *
  generalize s.ds = L at *
  obtain ⟨n, hn'⟩ : ∃ n, n = L.length := ⟨_, rfl⟩
  rw [← hn'] at c7 hm
  have HN := Lib.hid hn'
  obtain ⟨a, ha⟩ : ∃ a, a = sn.length := ⟨_, rfl⟩
  obtain ⟨b, hb⟩ : ∃ a, a = sz.length := ⟨_, rfl⟩
  rw [← ha] at HR z0 hn
  rw [← hb] at HR z6 hz
  have HD := Lib.hid hd
  have H0 : Hid (dsz (L.take 0) = 0) := Lib.hid (by simp [dsz, partsB])
  have HL := Lib.hid (dsz_le L)
  clear hn' ha hb hd
  go_enter Try.func78, Try.ntmps78
  go_wp2_with fail
  generalize w.alloc (.cells C 26) = W0 at *
  clear c0 c6 c7 z0 z6
  go_loop [3, 17] (fun v i => ∃ (k T : Nat), i = .int .i64 k ∧ k ≤ n ∧ Hid (dsz (L.take k) = T) ∧ v = .int .i64 (3981 - a - b - T) ∧ (k = 0 ∧ T = 0 ∨ (a : Int) + b + T ≤ 3981)) (fun _ i => n - (intOf i).toNat)
  case atStart => exact ⟨0, 0, rfl, by omega, H0, by simp, .inl ⟨rfl, rfl⟩⟩
  case round =>
    obtain ⟨k, T, rfl, hk, hT, rfl, hc⟩ := hrel
    clear H0
    have hbd : (T : Int) ≤ 4000 := by omega
    by_cases hlt : k < n
    · have hlt' : (k : Int) < (n : Int) := by omega
      have kL : k < L.length := by have := HN.out; omega
      obtain ⟨g1, o1, rfl, hc1⟩ := id hS0 (by omega)
      obtain ⟨a1, d1, C1, _⟩ := hc1 k kL
      have hxd := HD.out L[k] (List.getElem_mem kL)
      have hnx := dsz_next kL
      have hle := HL.out (k + 1)
      generalize L[k] = x at *
      rw [hT.out] at hnx
      rw [hnx] at hle
      obtain ⟨q, hq⟩ : ∃ q, q = x.length := ⟨_, rfl⟩
      rw [← hq] at C1 hxd hnx hle
      by_cases hneg : (3981 : Int) - a - b - T - (2 + q) < 0
      · have HF : Hid (R = false) := Lib.hid (by rw [HR.out]; simp; omega)
        clear HR hnx hle hq hS0 hc1 hc
        go_wp2_with fail
        go_ret
        exact ⟨by rw [HF.out]; rfl, b0⟩
      · have HX := Lib.hid hnx
        clear hnx hle hq hS0 hc1 hc
        go_wp2_with fail
        go_round
        case rel => exact ⟨k + 1, T + 2 + q, by go_num, by omega, HX, by congr 1; omega, .inr (by omega)⟩
        case measure => simp [intOf]; omega
    · have hlt' : ¬ (k : Int) < (n : Int) := by omega
      obtain rfl : k = n := by omega
      have hTT : dsz L = T := by have := hT.out; rwa [HN.out, List.take_length] at this
      rw [hTT] at HR
      clear hT hTT hS0 HL HD
      by_cases hneg : (3981 : Int) - a - b - T < 0
      · have HF : Hid (R = false) := Lib.hid (by rw [HR.out]; simp; omega)
        clear HR hc
        go_wp2_with fail
        go_ret
        exact ⟨by rw [HF.out]; exact ret_bool (by simp; omega), b0⟩
      · have HF : Hid (R = true) := Lib.hid (by rw [HR.out]; simp; omega)
        clear HR hc
        go_wp2_with fail
        go_ret
        exact ⟨by rw [HF.out]; exact ret_bool (by simp; omega), b0⟩
end Go.Proofs.Ytocbcobaodefgaa
