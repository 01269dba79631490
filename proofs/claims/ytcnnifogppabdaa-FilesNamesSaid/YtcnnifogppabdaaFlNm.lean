/-
  The walk of FilesNames.
-/
import Derived.Test.YtcnnifogppabdaaFlLa
namespace Go.Proofs.Ytcnnifogppabdaa
open Go.RowKit Go.Maps Go.Sort
set_option linter.unusedVariables false
set_option maxRecDepth 100000

/-- A disk beside blocks that it leaves alone. -/
def DKK (P B N : Nat) (D : Dk) (g : Nat) (w : World) : Prop := D.Ok ∧ B ≤ w.heap.size ∧ g < w.heap.size ∧ ∃ y : Ly, y.p = P ∧ DiskU y D (used D.S) w ∧ (∀ k, Foot y D.S k → B ≤ k ∧ k ≠ g) ∧ y.N ≤ N
theorem DK.block {P B N : Nat} {D : Dk} {w : World} (h : DK P B N D w) (o : Obj) : DKK P B N D w.heap.size (w.alloc o) := by
  obtain ⟨hok, hs, y, hp, hD, hF, hN⟩ := h
  exact ⟨hok, by simp; omega, by simp, y, hp, hD.alloc o, fun k hk => ⟨hF k hk, fun e => by have := hD.lt hk; omega⟩, hN⟩
theorem DKK.dk {P B N g : Nat} {D : Dk} {w : World} (h : DKK P B N D g w) : DK P B N D w := by
  obtain ⟨hok, hs, hg, y, hp, hD, hF, hN⟩ := h
  exact ⟨hok, hs, y, hp, hD, fun k hk => (hF k hk).1, hN⟩
theorem Append_dkk {P B N g : Nat} {D : Dk} (A : Option Addr) (b : Bs) (m c : Nat) (n : Bs) (w : World) (h : DKK P B N D g w) (hN : N < maxLen) (hm : m = b.length) (hnl : n.length ≤ 140737488355328) (hS : Bys w A b) (hc : b.length ≤ c) (hcm : c ≤ 9223372036854775807) (hA : A = none → c = 0) (hbl : b.length ≤ 140737488351232) (hoff : 0 < b.length → ∀ p, A = some p → p.block < B) :
    Calls Try.prog 16 #[.pointer (some ⟨P, 0, none⟩), .string (bs n), .slice A m c] w fun e w' => e = .returned (.tuple #[.int .i64 (appendD D n b).1, .int .i64 (appendD D n b).2.1]) ∧ DKK P B (N + 1) (appendD D n b).2.2 g w' ∧ Below B w w' ∧ w'.heap[g]? = w.heap[g]? := by
  obtain ⟨hok, hs, hg, y, rfl, hD, hF, hyN⟩ := h
  refine (Append_any A b m c n w hD hok (by omega) hm hnl hS hc hcm hA hbl (fun hn p hp hk => by have := (hF _ hk).1; have := hoff hn p hp; omega)).mono ?_
  rintro e w' ⟨rfl, hA⟩
  obtain ⟨h1, h2⟩ := hA.dk (appendD_ok hok n b) rfl (fun k hk => (hF k hk).1) hs hyN
  obtain ⟨y', k1, k2, k3, k4, k5⟩ := hA
  refine ⟨rfl, ⟨h1.1, h1.2.1, Nat.lt_of_lt_of_le hg k3.size, y', k1, k2, fun k hk => ?_, by omega⟩, h2, k3.block g hg fun e => (hF g e).2 rfl⟩
  rcases k4 k hk with e | e
  · exact hF k e
  · exact ⟨by omega, by omega⟩

def tabM : Nat → Bs
  | 0 => [122]
  | 1 => [109]
  | _ => [97]
def namS : Nat → Bs → List Fil
  | 0, _ => []
  | 1, X => [⟨[122], X, 0⟩]
  | 2, X => [⟨[109], X, 0⟩, ⟨[122], X, 0⟩]
  | _, X => [⟨[97], X, 0⟩, ⟨[109], X, 0⟩, ⟨[122], X, 0⟩]
def namesD (k : Nat) (X : Bs) : Dk := ⟨namS k X, 1048576, -1, -1⟩
def twoS (X : Bs) : List Fil := [⟨[97], X, 0⟩, ⟨[109], X, 0⟩]
def twoD (X : Bs) : Dk := ⟨twoS X, 1048576, -1, -1⟩
theorem less1 : Op.bytesLess [109] [122] = true := by decide
theorem less2 : Op.bytesLess [97] [109] = true := by decide
theorem less3 : Op.bytesLess [109] [97] = false := by decide
theorem tabM_can (k : Nat) : canN (tabM k) = true ∧ (tabM k).length = 1 := by
  unfold tabM
  split <;> decide
theorem nam_find (k : Nat) (X : Bs) (hk : k < 3) : find (namS k X) (tabM k) = none := by
  match k, hk with
  | 0, _ => rfl
  | 1, _ => rfl
  | 2, _ => rfl
theorem nam_ins (k : Nat) (X : Bs) (hk : k < 3) : ins (namS k X) ⟨tabM k, X, 0⟩ = namS (k + 1) X := by
  match k, hk with
  | 0, _ => rfl
  | 1, _ => simp [namS, tabM, ins, less1]
  | 2, _ => simp [namS, tabM, ins, less2]
theorem nam_used (k : Nat) (X : Bs) (hk : k < 3) : used (namS k X) = k * X.length := by
  match k, hk with
  | 0, _ => simp [namS, used]
  | 1, _ => simp [namS, used]
  | 2, _ => simp [namS, used]; omega
theorem names_step (k : Nat) (X : Bs) (hk : k < 3) (hX : X.length ≤ 500) : appendD (namesD k X) (tabM k) X = ((X.length : Int), 0, namesD (k + 1) X) := by
  unfold appendD namesD
  have hc : cutTo (-1) X = X := by unfold cutTo; rw [if_neg (by simp)]
  have h2 := nam_find k X hk
  have h3 := nam_used k X hk
  have h4 : k * X.length ≤ 2 * 500 := Nat.mul_le_mul (by omega) hX
  rw [if_neg (by rw [(tabM_can k).1]; simp), if_neg (by simp)]
  simp only [hc]
  rw [if_neg (by simp [fits, oldLen, h2, h3]; omega)]
  simp only [put, h2, nam_ins k X hk]
  simp [burnt]
theorem names_rename (X : Bs) : renameD (namesD 3 X) [122] [109] = (0, twoD X) := by
  have h1 : canN [109] = true := by decide
  unfold renameD namesD
  rw [if_neg (by rw [h1]; simp), if_neg (by simp)]
  simp [namS, find, rid, ins, less3, twoD, twoS, burnt]
theorem names_rename2 (X : Bs) : renameD (twoD X) [113] [114] = (60, twoD X) := by
  have h1 : canN [114] = true := by decide
  unfold renameD twoD
  rw [if_neg (by rw [h1]; simp), if_neg (by simp)]
  simp [twoS, find, burnt]
theorem names_rename3 (X : Bs) : renameD (twoD X) [97] [] = (1, twoD X) := by
  unfold renameD
  rw [if_pos (by decide)]
theorem names_remove (X : Bs) : removeD (twoD X) [122] = (60, twoD X) := by
  unfold removeD twoD
  rw [if_neg (by simp)]
  simp [twoS, find, burnt]
theorem names_sorted (X : Bs) : (names (twoS X)).mergeSort leB = [[97], [109]] := by
  have : names (twoS X) = [[97], [109]] := rfl
  rw [this]
  exact List.mergeSort_of_pairwise (by simp only [List.pairwise_cons, List.mem_singleton, forall_eq, List.Pairwise.nil, List.not_mem_nil, false_implies, implies_true, and_true, leB, decide_eq_true_eq]; decide)
theorem three_cell {w : World} {g z : Nat} (r : w.heap[g]? = some (.cells #[.string ⟨#[122]⟩, .string ⟨#[109]⟩, .string ⟨#[97]⟩] 9 (0, 0))) (h : z < 3) : w.cell? ⟨g, z, none⟩ = some (.string (bs (tabM z))) := by
  refine (cell_of_row _ _ _ _ _ _ r).trans ?_
  match z, h with
  | 0, _ => rfl
  | 1, _ => rfl
  | 2, _ => rfl
theorem strs_of {w : World} {base n : Nat} {v : Value} {L : List Bs} (h : w.ownsRow base 9 1 v n (L.map encStr)) : ∃ A c, v = .slice A n c ∧ StrsE w A L ∧ L.length = n := by
  have hn : L.length = n := by have := h.1; simpa using this
  rcases h.2 with ⟨hv, h0⟩ | ⟨g, cap, cur, hv, hb, hh, hc, hm, hsz, ht⟩
  · subst h0
    exact ⟨none, 0, hv, fun e => by omega, hn⟩
  · rw [Nat.mul_one] at hsz ht
    refine ⟨_, cap, hv, fun _ => ⟨g, 0, rfl, fun j hj => ?_⟩, hn⟩
    rw [cell_of_row _ _ _ _ _ _ hh, Nat.zero_add]
    have e := congrArg (fun x => x[j]?) ht
    simp [hj] at e
    rw [List.getElem?_take_of_lt (by omega)] at e
    simpa using e
theorem StrsE.on {w w1 : World} {A : Option Addr} {L : List Bs} (h : StrsE w A L) (hB : Below w.heap.size w w1) : StrsE w1 A L := fun hn => by
  obtain ⟨g, off, hA, hc⟩ := h hn
  exact ⟨g, off, hA, fun j hj => (World.cell?_of_block (hB.block g (World.block_lt_of_cell? w _ (hc j hj)))).trans (hc j hj)⟩
theorem two_strs (w : World) : StrsE (w.alloc (.cells #[.string ⟨#[97]⟩, .string ⟨#[109]⟩] 9)) (some ⟨w.heap.size, 0, none⟩) [[97], [109]] := fun _ => ⟨_, 0, rfl, fun j hj => by
  refine (cell_of_row _ _ _ _ _ _ (row_new _ rfl)).trans ?_
  match j, hj with
  | 0, _ => rfl
  | 1, _ => rfl⟩

set_option maxHeartbeats 4000000 in
theorem Names_walk (A0 A1 : Option Addr) (l0 : Bs) (c0 n1 c1 : Nat) (w : World) (h0 : Bys w A0 l0) (k0 : l0.length ≤ c0) (m0 : c0 ≤ 9223372036854775807) (n0 : A0 = none → c0 = 0) :
    Calls Try.prog 8 #[.slice A0 l0.length c0, .slice A1 n1 c1] w fun e w' => e = .returned (.bool true) ∧ Below w.heap.size w w' := by
  obtain ⟨p, hp⟩ : ∃ k, k = min l0.length 500 := ⟨_, rfl⟩
  have r0 := slice_pre A0 l0 c0 p (min (l0.length : Int) 500) (by omega) k0 (by omega)
  have q0 := h0.pre p
  have e0 : (l0.take p).length = p := by rw [List.length_take]; omega
  have i0 : ∀ x, A0 = some x → 0 < p → x.block < w.heap.size := fun x hx hn => h0.inside x hx (by omega)
  rw [e0] at r0
  have k0' : p ≤ c0 := by omega
  have z0 : p ≤ 500 := by omega
  generalize l0.take p = X at *
  clear hp h0 k0
  have N := Lib.hid (New_dk 1048576 w (by omega))
  have C1 := Lib.hid (fun P g k W (hk : k < 3) (h : DKK P w.heap.size k (namesD k X) g W) (hB : Below w.heap.size w W) => by
    have := Append_dkk A0 X p c0 (tabM k) W h (by unfold maxLen; omega) e0.symm (by rw [(tabM_can k).2]; omega) (q0.on hB) (by omega) m0 n0 (by omega) (fun hn x hx => i0 x hx (by omega))
    rw [names_step k X hk (by omega), e0] at this
    exact this)
  have C2 := Lib.hid (fun P W (h : DK P w.heap.size 3 (namesD 3 X) W) => by
    have := Rename_dk [122] [109] W h (by unfold maxLen; omega) (by simp) (by simp)
    rw [names_rename X] at this
    exact this)
  have C3 := Lib.hid (fun P W (h : DK P w.heap.size 4 (twoD X) W) => by
    have := Rename_dk [113] [114] W h (by unfold maxLen; omega) (by simp) (by simp)
    rw [names_rename2 X] at this
    exact this)
  have C4 := Lib.hid (fun P W (h : DK P w.heap.size 5 (twoD X) W) => by
    have := Rename_dk [97] [] W h (by unfold maxLen; omega) (by simp) (by simp)
    rw [names_rename3 X] at this
    exact this)
  have C5 := Lib.hid (fun P W (h : DK P w.heap.size 6 (twoD X) W) => by
    have := Remove_dk [122] W h (by simp)
    rw [names_remove X] at this
    exact this)
  have C6 := Lib.hid (fun P W (h : DK P w.heap.size 7 (twoD X) W) => Read_dk (f := ⟨[109], X, 0⟩) [109] W h (by rfl) (by simp))
  have C7 := Lib.hid (fun B E d f n m W (hB : Bys W B X) (hE : Bys W E X) (hn : n = X.length) (hm : m = X.length) => by have := EqualB_any B E X X n m d f W hB hE hn hm; rw [show (X == X) = true by simp] at this; exact this)
  have C8 := Lib.hid (fun P W (h : DK P w.heap.size 7 (twoD X) W) => by
    have := List_dk W h (by simp [twoD, twoS])
    rw [show (names (twoD X).S).mergeSort leB = [[97], [109]] from names_sorted X, show (twoD X).S.length = 2 from rfl] at this
    exact this)
  have C9 := Lib.hid (fun P W (h : DK P w.heap.size 7 (twoD X) W) => by
    have := Used_dk W h
    rw [show used (twoD X).S = 2 * X.length by simp [twoD, twoS, used]; omega, e0] at this
    exact this)
  have HQ := Lib.hid (fun W (hB : Below w.heap.size w W) => q0.on hB)
  have HX := Lib.hid e0
  have f1 : ((((2 * p : Nat) : Int)) == 2 * (p : Int)) = true := by rw [beq_iff_eq]; omega
  clear q0 e0 i0 n0
  go_enter Try.func8, Try.ntmps8
  go_wp2_with fail
  with_reducible refine Calls.mono N.out ?_
  rintro e w1 ⟨⟨P, rfl, hD1⟩, hB1⟩
  have HD1 := Lib.hid hD1
  clear hD1
  go_wp2_with fail
  have r1 : (w1.alloc (.cells #[.string ⟨#[122]⟩, .string ⟨#[109]⟩, .string ⟨#[97]⟩] 9)).heap[w1.heap.size]? = some (.cells #[.string ⟨#[122]⟩, .string ⟨#[109]⟩, .string ⟨#[97]⟩] 9 (0, 0)) := row_new _ rfl
  have hD2 := HD1.out.block (.cells #[.string ⟨#[122]⟩, .string ⟨#[109]⟩, .string ⟨#[97]⟩] 9)
  have hB2 : Below w.heap.size w (w1.alloc (.cells #[.string ⟨#[122]⟩, .string ⟨#[109]⟩, .string ⟨#[97]⟩] 9)) := Below.alloc hB1 hB1.size _
  have hD2 : DKK P w.heap.size 0 (namesD 0 X) w1.heap.size (w1.alloc (.cells #[.string ⟨#[122]⟩, .string ⟨#[109]⟩, .string ⟨#[97]⟩] 9)) := hD2
  generalize (w1.alloc (.cells #[.string ⟨#[122]⟩, .string ⟨#[109]⟩, .string ⟨#[97]⟩] 9)) = W2 at *
  generalize w1.heap.size = g at *
  clear hB1 HD1 N
  go_loopw [25] (fun v wr => ∃ k : Nat, v = .int .i64 k ∧ k ≤ 3 ∧ DKK P w.heap.size k (namesD k X) g wr ∧ Below w.heap.size w wr ∧ wr.heap[g]? = some (.cells #[.string ⟨#[122]⟩, .string ⟨#[109]⟩, .string ⟨#[97]⟩] 9 (0, 0))) (fun v _ => 3 - (intOf v).toNat)
  case atStart => exact ⟨0, rfl, by omega, hD2, hB2, r1⟩
  case round =>
    clear hD2 hB2 r1
    obtain ⟨k, rfl, hk, hD, hB, r1⟩ := hrel
    by_cases hlt : k < 3
    · have g1 : (k : Int) < 3 := by omega
      have c3 := three_cell r1 hlt
      have HD := Lib.hid hD
      have HB := Lib.hid hB
      have HR := Lib.hid r1
      clear hD hB r1
      go_wp2_with fail
      with_reducible refine Calls.mono (C1.out P g k _ hlt HD.out HB.out) ?_
      rintro e w3 ⟨rfl, hD3, b3, e3⟩
      have HD3 := Lib.hid hD3
      have HB3 := Lib.hid (Below.trans HB.out b3)
      have HR3 := Lib.hid (e3.trans HR.out)
      clear hD3 b3 e3 c3 HD HB HR
      go_wp2_with fail
      go_roundw
      case rel => exact ⟨k + 1, by go_num, by omega, HD3.out, HB3.out, HR3.out⟩
      case measure => simp [intOf]; omega
    · obtain rfl : k = 3 := by omega
      have HD := Lib.hid hD.dk
      have HB := Lib.hid hB
      clear hD hB r1 C1
      go_wp2_with fail
      with_reducible refine Calls.mono (C2.out P _ HD.out) ?_
      rintro e w3 ⟨rfl, hD3, b3⟩
      have HD3 := Lib.hid hD3
      have HB3 := Lib.hid (Below.trans HB.out b3)
      clear hD3 b3 HD HB
      go_wp2_with fail
      with_reducible refine Calls.mono (C3.out P _ HD3.out) ?_
      rintro e w4 ⟨rfl, hD4, b4⟩
      have HD4 := Lib.hid hD4
      have HB4 := Lib.hid (Below.trans HB3.out b4)
      clear hD4 b4 HD3 HB3
      go_wp2_with fail
      with_reducible refine Calls.mono (C4.out P _ HD4.out) ?_
      rintro e w5 ⟨rfl, hD5, b5⟩
      have HD5 := Lib.hid hD5
      have HB5 := Lib.hid (Below.trans HB4.out b5)
      clear hD5 b5 HD4 HB4
      go_wp2_with fail
      with_reducible refine Calls.mono (C5.out P _ HD5.out) ?_
      rintro e w6 ⟨rfl, hD6, b6⟩
      have HD6 := Lib.hid hD6
      have HB6 := Lib.hid (Below.trans HB5.out b6)
      clear hD6 b6 HD5 HB5
      go_wp2_with fail
      with_reducible refine Calls.mono (C6.out P _ HD6.out) ?_
      rintro e w7 ⟨⟨v7, rfl, ho7⟩, b7⟩
      have HD7 := Lib.hid (HD6.out.below b7)
      have HB7 : Hid (Below w.heap.size w w7) := Lib.hid (Below.trans HB6.out (b7.mono HB6.out.size))
      obtain ⟨A7, d7, rfl, y7, _⟩ := (OwnB.of ho7 rfl).bys
      have HY7 := Lib.hid y7
      clear ho7 y7 b7 HD6 HB6
      dsimp only
      rw [HX.out]
      go_wp2_with fail
      with_reducible refine Calls.mono (C7.out _ _ _ _ _ _ _ HY7.out (HQ.out _ HB7.out) HX.out.symm HX.out.symm) ?_
      rintro e w8 ⟨rfl, rfl⟩
      clear HY7
      go_wp2_with fail
      with_reducible refine Calls.mono (C8.out P _ HD7.out) ?_
      rintro e w8 ⟨v8, rfl, ho8, b8⟩
      obtain ⟨A8, d8, rfl, y8, _⟩ := strs_of ho8
      have HD8 := Lib.hid (HD7.out.below b8)
      have HB8 : Hid (Below w.heap.size w w8) := Lib.hid (Below.trans HB7.out (b8.mono HB7.out.size))
      have HY8 := Lib.hid y8
      clear ho8 y8 b8 HD7 HB7
      go_wp2_with fail
      with_reducible refine Calls.mono (EqualS_same _ _ [[97], [109]] 2 _ _ _ (HY8.out.on (Below.alloc (Below.refl _ _) (Nat.le_refl _) _)) (two_strs _) (by simp) (by omega)) ?_
      rintro e w9 ⟨rfl, b9⟩
      have hb9 : Below w8.heap.size w8 w9 := (Below.alloc (Below.refl _ _) (Nat.le_refl _) _).trans (b9.mono (by simp))
      have HD9 := Lib.hid (HD8.out.below hb9)
      have HB9 : Hid (Below w.heap.size w w9) := Lib.hid (Below.trans HB8.out (hb9.mono HB8.out.size))
      clear hb9 b9 HD8 HB8 HY8
      go_wp2_with fail
      with_reducible refine Calls.mono (C9.out P _ HD9.out) ?_
      rintro e w10 ⟨rfl, rfl⟩
      go_wp2_with fail
      go_ret
      exact ⟨rfl, HB9.out⟩
end Go.Proofs.Ytcnnifogppabdaa
