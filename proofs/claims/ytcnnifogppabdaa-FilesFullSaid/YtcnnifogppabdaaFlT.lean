/-
  The walk of FilesFull.
-/
import Derived.Test.YtcnnifogppabdaaFlK
import Derived.Test.YtcnnifogppabdaaPlC
namespace Go.Proofs.Ytcnnifogppabdaa
open Go.RowKit
set_option linter.unusedVariables false
set_option maxRecDepth 100000

def tabN (r : Nat) : Bs := match r with
  | 0 => [97]
  | 1 => [98]
  | _ => [99]
theorem tabN_can (r : Nat) : canN (tabN r) = true ∧ (tabN r).length = 1 := by
  unfold tabN
  split <;> decide
theorem append_full {D : Dk} {n x : Bs} {u r : Nat} (hn : canN n = true) (h1 : D.short = -1) (h2 : D.fuse = -1) (h3 : D.room = r) (hu : used D.S = u) (hr : r < 3000) (hx : x.length ≤ 1000) (hold : oldLen D.S n ≤ u) (hur : u ≤ r) :
    (r < u + x.length → appendD D n x = (0, 4, D)) ∧ (u + x.length ≤ r → appendD D n x = ((x.length : Int), 0, { D with S := put D.S n x })) := by
  have hc : cutTo D.short x = x := by unfold cutTo; rw [if_neg (by omega)]
  have hb : burnt D.fuse = -1 := by rw [h2]; rfl
  have hD : ({ D with short := -1, fuse := -1 } : Dk) = D := by cases D; simp at h1 h2; simp [h1, h2]
  constructor
  · intro h
    unfold appendD
    rw [if_neg (by simp [hn]), if_neg (by omega), hc, if_pos (by unfold fits; simp; omega), hb, hD]
  · intro h
    unfold appendD
    rw [if_neg (by simp [hn]), if_neg (by omega), hc, if_neg (by unfold fits; simp; omega), if_neg (by omega), hb]
    refine Prod.ext rfl (Prod.ext rfl ?_)
    cases D; simp at h1 h2; simp [h1, h2]
theorem oldLen_used {S : List Fil} (n : Bs) : oldLen S n ≤ used S := by
  unfold oldLen
  cases h : find S n with
  | none => simp
  | some f => exact len_le_used (find_some h).1
theorem names_cell (w : World) (z : Nat) (h : z < 3) : (w.alloc (Obj.cells #[.string ⟨#[97]⟩, .string ⟨#[98]⟩, .string ⟨#[99]⟩] 9)).cell? ⟨w.heap.size, z, none⟩ = some (.string (bs (tabN z))) := by
  refine (cell_of_row _ _ _ _ _ _ (row_new _ rfl)).trans ?_
  match z, h with
  | 0, _ => rfl
  | 1, _ => rfl
  | 2, _ => rfl
def Full (P B N r u : Nat) (w : World) : Prop := ∃ D, DK P B N D w ∧ D.short = -1 ∧ D.fuse = -1 ∧ D.room = r ∧ used D.S = u ∧ u ≤ r
theorem Full.append {P B N r u : Nat} {w : World} (h : Full P B N r u w) (hr : r < 3000) (hN : N ≤ 100) (A : Option Addr) (x : Bs) (m c : Nat) (n : Bs) (hn : canN n = true) (hm : m = x.length) (hS : Bys w A x) (hc : x.length ≤ c) (hcm : c ≤ 9223372036854775807) (hA : A = none → c = 0) (hxl : x.length ≤ 1000) (hoff : 0 < x.length → ∀ p, A = some p → p.block < B) :
    Calls Try.prog 16 #[.pointer (some ⟨P, 0, none⟩), .string (bs n), .slice A m c] w fun e w' => e = .returned (.tuple #[.int .i64 (if r < u + m then 0 else m), .int .i64 (if r < u + m then 4 else 0)]) ∧ Full P B (N + 1) r (if r < u + m then u else u + m) w' ∧ Below B w w' := by
  obtain ⟨D, hD, h1, h2, h3, h4, h5⟩ := h
  obtain ⟨g1, g2⟩ := append_full (n := n) (x := x) hn h1 h2 h3 h4 hr hxl (by rw [← h4]; exact oldLen_used n) h5
  subst hm
  refine (Append_dk A x x.length c n w hD (by unfold maxLen; omega) rfl (by have := canN_len hn; omega) hS hc hcm hA (by omega) hoff).mono ?_
  rintro e w' ⟨rfl, hD', hB⟩
  by_cases h : r < u + x.length
  · rw [g1 h] at hD' ⊢
    rw [if_pos h, if_pos h, if_pos h]
    exact ⟨rfl, ⟨D, hD', h1, h2, h3, h4, h5⟩, hB⟩
  · rw [g2 (by omega)] at hD' ⊢
    rw [if_neg h, if_neg h, if_neg h]
    exact ⟨rfl, ⟨_, hD', h1, h2, h3, by show used (put D.S n x) = _; rw [used_put hD.1.u, h4], by omega⟩, hB⟩
theorem Full.used {P B N r u : Nat} {w : World} (h : Full P B N r u w) : Calls Try.prog 23 #[.pointer (some ⟨P, 0, none⟩)] w fun e w' => e = .returned (.int .i64 u) ∧ w = w' := by
  obtain ⟨D, hD, h1, h2, h3, h4, h5⟩ := h
  have := Used_dk w hD
  rw [h4] at this
  exact this
theorem Full.room {P B N r u : Nat} {w : World} (h : Full P B N r u w) (hr : r < 3000) : Calls Try.prog 28 #[.pointer (some ⟨P, 0, none⟩), .int .i64 r] w fun e w' => e = .returned (.int .i64 0) ∧ Below B w w' := by
  obtain ⟨D, hD, h1, h2, h3, h4, h5⟩ := h
  exact (Room_dk r w hD (by omega)).mono fun e w' ⟨a, _, b⟩ => ⟨a, b⟩
theorem Full.below {P B N r u : Nat} {w w' : World} (h : Full P B N r u w) (hB : Below w.heap.size w w') : Full P B N r u w' := by
  obtain ⟨D, hD, h⟩ := h
  exact ⟨D, hD.below hB, h⟩

set_option maxHeartbeats 4000000 in
theorem Full_walk (t : Int) (A : Option Addr) (L : List Bs) (c : Nat) (w : World) (hS : Byss w A L) (hc : L.length ≤ c) (hcm : c ≤ 9223372036854775807) :
    Calls Try.prog 6 #[.int .i64 t, .slice A L.length c] w fun e w' => e = .returned (.bool true) ∧ Below w.heap.size w w' := by
  obtain ⟨r, hr, hr2⟩ := place_mod t 3000 (by omega) (by omega)
  have hr' : wrap64 ((IntKind.u64.wrap t).tmod 3000) = r := hr
  have HR := Lib.hid hr'
  clear hr hr'
  have N0 := Lib.hid (New_dk r w (by omega))
  go_enter Try.func6, Try.ntmps6
  go_wp2_with fail
  rw [HR.out]
  with_reducible refine Calls.mono N0.out ?_
  rintro e w1 ⟨⟨P, rfl, hD1⟩, hB1⟩
  have hF1 : Full P w.heap.size 0 r 0 w1 := ⟨_, hD1, rfl, rfl, rfl, rfl, Nat.zero_le _⟩
  clear hD1
  go_wp2_with fail
  go_loopw [26, 7] (fun v u wr => ∃ k q : Nat, v = .int .i64 k ∧ u = .int .i64 q ∧ k ≤ L.length ∧ k ≤ 31 ∧ q ≤ r ∧ Full P w.heap.size k r q wr ∧ Below w.heap.size w wr) (fun v _ _ => L.length - (intOf v).toNat)
  case atStart => exact ⟨0, 0, rfl, rfl, by omega, by omega, by omega, hF1, hB1⟩
  case round =>
    clear hF1 hB1
    obtain ⟨k, q, rfl, rfl, hk, hk31, hq, hF, hB⟩ := hrel
    by_cases hlt : k < L.length
    · obtain ⟨g, off, rfl, hcs⟩ := (hS.on hB) (by omega)
      obtain ⟨a, cx, hcell, hy, hle, hcx, hnil⟩ := hcs k hlt
      have hin : 0 < (L[k]).length → ∀ p, a = some p → p.block < w.heap.size := fun h0 => by
        obtain ⟨g2, o2, e2, hc2⟩ := hS (by omega)
        obtain ⟨a2, cx2, hcell2, hy2, _⟩ := hc2 k hlt
        have := (World.cell?_of_block (a := ⟨g2, o2 + k, none⟩) (hB.block g2 (World.block_lt_of_cell? w _ hcell2))).trans hcell2
        injection e2 with e2
        injection e2 with e3 e4
        subst e3 e4
        rw [hcell] at this
        injection this with this
        injection this with this
        subst this
        exact fun p hp => hy2.inside p hp h0
      by_cases h30 : 30 < k
      · have g30 : (30 : Int) < k := by omega
        have gk : (k : Int) < L.length := by omega
        clear hcs hy hin hS
        have U := Lib.hid hF.used
        have V := Lib.hid (hF.room hr2)
        have f1 : decide (q ≤ r) = true := by simp; omega
        have f2 : ((q : Int) == (q : Int)) = true := by simp
        clear hF
        go_wp2_with fail
        with_reducible refine Calls.mono U.out ?_
        rintro e w2 ⟨rfl, rfl⟩
        go_wp2_with fail
        with_reducible refine Calls.mono V.out ?_
        rintro e w2 ⟨rfl, hB2⟩
        have hB2 := Below.trans hB hB2
        go_wp2_with fail
        go_ret
        exact ⟨rfl, hB2⟩
      · have g30 : (k : Int) ≤ 30 := by omega
        have gk : (k : Int) < L.length := by omega
        obtain ⟨p, hp⟩ : ∃ p, p = min (L[k]).length 1000 := ⟨_, rfl⟩
        have hpre := slice_pre a L[k] cx p (min ((L[k]).length : Int) 1000) (by omega) hle (by omega)
        have hyp := hy.pre p
        have hxl : ((L[k]).take p).length = p := by rw [List.length_take]; omega
        rw [hxl] at hpre
        have hin2 : 0 < p → ∀ x, a = some x → x.block < w.heap.size := fun h0 => hin (by omega)
        have hp1 : p ≤ 1000 := by omega
        have hpc : p ≤ cx := by omega
        generalize (L[k]).take p = x at *
        obtain ⟨hcan, hnl⟩ := tabN_can (k % 3)
        have AP := Lib.hid (fun W (hFW : Full P w.heap.size k r q W) (hBW : Below wr.heap.size wr W) => hFW.append hr2 (by omega) a x p cx (tabN (k % 3)) hcan hxl.symm (hyp.on hBW) (by omega) hcx hnil (by omega) (by rw [hxl]; exact hin2))
        have c3 := names_cell wr (k % 3) (Nat.mod_lt _ (by omega))
        have k3 : k % 3 < 3 := Nat.mod_lt _ (by omega)
        generalize (L[k]).length = xl at *
        generalize tabN (k % 3) = nm at *
        have HXL := Lib.hid hxl
        clear hxl hyp hin hin2 hy hcs hle hp hcan hnl hnil hS h30
        by_cases hover : r < q + p
        · simp only [if_pos hover] at AP
          have g1 : (r : Int) - q < p := by omega
          have g2 : ¬ (p : Int) ≤ (r : Int) - q := by omega
          clear hover
          go_wp2_with fail
          with_reducible refine Calls.mono (AP.out _ (hF.below (Below.alloc (Below.refl _ _) (Nat.le_refl _) _)) (Below.alloc (Below.refl _ _) (Nat.le_refl _) _)) ?_
          rintro e w2 ⟨rfl, hF2, hB2⟩
          have HF2 := Lib.hid hF2
          have HB2 := Lib.hid (Below.trans (Below.alloc hB hB.size _) hB2)
          clear hF2 hB2 hF hB AP c3 hcell hpre
          go_wp2_with fail
          go_roundw
          case rel => exact ⟨k + 1, q, by go_num, rfl, by omega, by omega, hq, HF2.out, HB2.out⟩
          case measure => simp [intOf]; omega
        · simp only [if_neg hover] at AP
          have g1 : (p : Int) ≤ (r : Int) - q := by omega
          have g2 : decide ((r : Int) - q < p) = false := by simp; omega
          have hqp : q + p ≤ r := by omega
          have g3 : ((p : Int) != (p : Int)) = false := by simp
          have g4 : (((q : Int) + p) != ((q : Int) + p)) = false := by simp
          clear hover
          go_wp2_with fail
          with_reducible refine Calls.mono (AP.out _ (hF.below (Below.alloc (Below.refl _ _) (Nat.le_refl _) _)) (Below.alloc (Below.refl _ _) (Nat.le_refl _) _)) ?_
          rintro e w2 ⟨rfl, hF2, hB2⟩
          have U := Lib.hid (by have := hF2.used; rw [Int.natCast_add] at this; exact this)
          have HF2 := Lib.hid hF2
          have HB2 := Lib.hid (Below.trans (Below.alloc hB hB.size _) hB2)
          clear hF2 hB2 hF hB AP c3 hcell hpre
          go_wp2_with fail
          with_reducible refine Calls.mono U.out ?_
          rintro e w3 ⟨rfl, rfl⟩
          go_wp2_with fail
          go_roundw
          case rel => exact ⟨k + 1, q + p, by go_num, by go_num, by omega, by omega, hqp, HF2.out, HB2.out⟩
          case measure => simp [intOf]; omega
    · obtain rfl : k = L.length := by omega
      have U := Lib.hid hF.used
      have V := Lib.hid (hF.room hr2)
      have f1 : decide (q ≤ r) = true := by simp; omega
      have f2 : ((q : Int) == (q : Int)) = true := by simp
      clear hF
      go_wp2_with fail
      with_reducible refine Calls.mono U.out ?_
      rintro e w2 ⟨rfl, rfl⟩
      go_wp2_with fail
      with_reducible refine Calls.mono V.out ?_
      rintro e w2 ⟨rfl, hB2⟩
      have hB2 := Below.trans hB hB2
      go_wp2_with fail
      go_ret
      exact ⟨rfl, hB2⟩
end Go.Proofs.Ytcnnifogppabdaa
