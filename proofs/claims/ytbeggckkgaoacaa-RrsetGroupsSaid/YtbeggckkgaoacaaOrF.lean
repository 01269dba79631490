/-
  The document's Order.
-/
import Derived.Test.YtbeggckkgaoacaaOrE
import Derived.Test.YtbeggckkgaoacaaLw
namespace Go.Proofs.Ytbeggckkgaoacaa
open Go.RowKit
set_option linter.unusedVariables false
set_option maxRecDepth 100000

/-- The j-th of a list of texts. -/
theorem OwnL.at {w : World} {B : Nat} {v : Value} {L : List Bs} (h : OwnL w B v L) {j : Nat} (hj : j < L.length) : ∃ g c A d, v = .slice (some ⟨g, 0, none⟩) L.length c ∧ w.cell? ⟨g, j, none⟩ = some (.slice A (L[j]).length d) ∧ OwnR w B (.slice A (L[j]).length d) L[j] ∧ Sl w A d L[j] := by
  obtain ⟨xs, a, b⟩ := h
  obtain ⟨u, h1, h2, -⟩ := b.2 j hj
  obtain ⟨A, d, rfl, h3⟩ := h2.ownB.bysN
  rcases a.2 with ⟨h4, h5⟩ | ⟨g, cap, cur, h4, hb, hh, hc, hm, hsz, ht⟩
  · omega
  · refine ⟨g, cap, A, d, h4, ?_, h2, h3⟩
    rw [cell_of_row _ _ _ _ _ _ hh]
    rw [← ht, List.getElem?_take_of_lt (by omega)] at h1
    simpa using h1
theorem OwnL.size {w : World} {B : Nat} {v : Value} {L : List Bs} (h : OwnL w B v L) : ∃ A c, v = .slice A L.length c ∧ L.length ≤ c ∧ c ≤ 9223372036854775807 := by
  obtain ⟨A, c, h1, -, h2, h3, -⟩ := h.byss
  exact ⟨A, c, h1, h2, h3⟩

theorem acc_bd {a j m : Nat} {p : Bool} (h : a ≤ j + 1 ∧ (p = false → a ≤ j)) (hj : j < m) (hm : (m + 1) * 24 ≤ 140737488351232) : (a + 1) * 24 ≤ 140737488355328 ∧ (a + 1 + 1) * 24 ≤ 140737488355328 ∧ a + 1 ≤ j + 1 + 1 ∧ (p = false → a + 1 ≤ j + 1) := by
  obtain ⟨h1, h2⟩ := h
  have e1 : (a + 1) * 24 ≤ 140737488355328 := by omega
  have e0 : a + 1 + 1 ≤ m + 2 := by omega
  have e5 : (m + 2) * 24 ≤ 140737488355328 := by omega
  have e2 : (a + 1 + 1) * 24 ≤ 140737488355328 := Nat.le_trans (Nat.mul_le_mul_right 24 e0) e5
  have e3 : a + 1 ≤ j + 1 + 1 := by omega
  have e4 : p = false → a + 1 ≤ j + 1 := fun hp => by have := h2 hp; omega
  exact And.intro e1 (And.intro e2 (And.intro e3 e4))
theorem len_one {acc : List Bs} {y : Bs} {j : Nat} {p : Bool} (h : acc.length + 1 ≤ j + 1 + 1) (h2 : p = false → acc.length + 1 ≤ j + 1) : (acc ++ [y]).length ≤ j + 1 + 1 ∧ (p = false → (acc ++ [y]).length ≤ j + 1) := by
  rw [List.length_append, List.length_singleton]
  exact ⟨h, h2⟩
theorem len_two {acc : List Bs} {x y : Bs} {j : Nat} (h : acc.length + 1 ≤ j + 1) : (acc ++ [x, y]).length ≤ j + 1 + 1 ∧ (true = false → (acc ++ [x, y]).length ≤ j + 1) := by
  rw [List.length_append]
  exact ⟨Nat.succ_le_succ h, fun h => by cases h⟩
theorem acc_be {a j : Nat} {p : Bool} (h : a ≤ j + 1 ∧ (p = false → a ≤ j)) (hm : (j + 1) * 24 ≤ 140737488351232) : (a + 1) * 24 ≤ 140737488355328 := by
  obtain ⟨h1, -⟩ := h
  omega
set_option maxHeartbeats 2000000 in
set_option maxRecDepth 100000 in
theorem dOrder_any (A : Option Addr) (L : List Bs) (c : Nat) (w : World) (hS : Byss w A L) (hl : (L.length + 1) * 24 ≤ 140737488351232) (hd : ∀ x ∈ L, x.length ≤ 140737488351232) :
    Calls Try.prog 26 #[.slice A L.length c] w fun e w' => ∃ v, e = .returned v ∧ OwnL w' w.heap.size v (orderP L) ∧ Below w.heap.size w w' := by
  obtain ⟨n, hn⟩ : ∃ n, n = L.length := ⟨_, rfl⟩
  rw [← hn]
  rw [← hn] at hl
  have HN := Lib.hid hn
  have HD := Lib.hid hd
  have HS := Lib.hid hS
  clear hn hd hS
  go_enter Try.func26, Try.ntmps26
  go_wp2_with fail
  go_loopw [3, 12] (fun v2 va wr => ∃ k : Nat, va = .int .i64 k ∧ k ≤ n ∧ Hid (OwnL wr w.heap.size v2 (orderP (L.take k))) ∧ Below w.heap.size w wr) (fun _ va _ => n - (intOf va).toNat)
  case atStart => exact ⟨0, rfl, by omega, Lib.hid (OwnL.nil _ _), Below.refl _ _⟩
  case round =>
    obtain ⟨k, rfl, hk, HO, hB⟩ := hrel
    by_cases hlt : k < n
    · have hlt' : (k : Int) < (n : Int) := by omega
      have kL : k < L.length := by have := HN.out; omega
      obtain ⟨g1, o1, rfl, hc1⟩ := id HS.out (by omega)
      obtain ⟨a1, d1, C1, D1, hd1, hm1, hn1⟩ := hc1 k kL
      have C1' := cell_on C1 hB
      have S1 : Sl w a1 d1 L[k] := ⟨D1, hd1, hm1, hn1⟩
      have hxd := HD.out L[k] (List.getElem_mem kL)
      have htk : orderP (L.take (k + 1)) = insP L[k] (orderP (L.take k)) := by rw [List.take_succ_eq_append_getElem kL, order_snoc]
      have hol := order_len (L.take k)
      rw [List.length_take] at hol
      have hup := up_order (L.take k)
      generalize orderP (L.take k) = O at *
      generalize L[k] = x at *
      have xl := bs_toList x
      obtain ⟨xn, hxn⟩ : ∃ xn, xn = x.length := ⟨_, rfl⟩
      rw [← hxn] at C1' hxd
      have HXN := Lib.hid hxn
      obtain ⟨m, hm⟩ : ∃ m, m = O.length := ⟨_, rfl⟩
      obtain ⟨A2, c2, rfl, hoc, hocm⟩ := HO.out.size
      have HO1 := HO.out
      rw [← hm] at HO1 hoc hol ⊢
      have HM := Lib.hid hm
      have HT := Lib.hid htk
      have HU := Lib.hid hup
      have HXD := Lib.hid hxd
      have HS1 := Lib.hid S1
      have HOO := Lib.hid HO1
      have hsz := hB.size
      have HB := Lib.hid hB
      have hm24 : (m + 1) * 24 ≤ 140737488351232 := by omega
      have HM24 := Lib.hid hm24
      have HLN := Lib.hid hl
      clear hn1 hd1 hm1 D1 S1 C1 hc1 hxn hm htk hup hxd HO HO1 hB hol hm24 hl
      go_wp2_with fail
      go_loopw [6, 7, 18] (fun v5 v6 vb ws => ∃ (j : Nat) (acc : List Bs) (p : Bool), v6 = .bool p ∧ vb = .int .i64 j ∧ j ≤ m ∧ Hid (Pas x O acc j p) ∧ Hid (acc.length ≤ j + 1 ∧ (p = false → acc.length ≤ j)) ∧ Hid (NxL ws wr.heap.size w.heap.size v5 acc) ∧ Below wr.heap.size wr ws) (fun _ _ vb _ => m - (intOf vb).toNat)
      case atStart => exact ⟨0, [], false, rfl, rfl, by omega, Lib.hid (Pas.start _ _), Lib.hid ⟨by simp, fun _ => by simp⟩, Lib.hid (NxL.nil _ _ _), Below.refl _ _⟩
      case round =>
        obtain ⟨j, acc, p, rfl, rfl, hj, HP, HL, HX, hB2⟩ := hrel
        rename World => ws
        have C1'' := cell_on C1' hB2
        have sz2 := hB2.size
        have SX := HS1.out.on (Below.trans HB.out (hB2.mono HB.out.size))
        by_cases hlt2 : j < m
        · have hlt2' : (j : Int) < (m : Int) := by omega
          have jO : j < O.length := by have := HM.out; omega
          obtain ⟨g2, cc, a2, d2, hv, C2, U2, S2⟩ := HOO.out.at jO
          injection hv with e1 e2 e3
          subst e1 e3
          clear e2
          have C2' := cell_on C2 hB2
          have S2' := S2.on hB2
          have str2 := string_bys a2 O[j] d2 ws S2'.bys
          have str1 := string_bys a1 x d1 ws SX.bys
          rw [← HXN.out] at str1
          have hP := HP.out
          have hlow := fun hp : p = false => fun hl => Pas.low (hp ▸ hP) jO hl
          have hsame := fun hp : p = false => fun hl => Pas.same (hp ▸ hP) jO hl
          have hhigh := fun hp : p = false => fun h1 h2 => Pas.high (hp ▸ hP) jO h1 h2
          have hover := fun hp : p = true => Pas.over (hp ▸ hP) HU.out jO
          generalize O[j] = y at *
          have yl := bs_toList y
          obtain ⟨yn, hyn⟩ : ∃ yn, yn = y.length := ⟨_, rfl⟩
          rw [← hyn] at C2' str2 U2
          have HYN := Lib.hid hyn
          have HLO := Lib.hid hlow
          have HSA := Lib.hid hsame
          have HHI := Lib.hid hhigh
          have HOV := Lib.hid hover
          have HU2 := Lib.hid U2
          have HS2 := Lib.hid S2
          have HSX := Lib.hid SX
          have HB2 := Lib.hid hB2
          have HL2 : Hid ((acc.length + 1) * 24 ≤ 140737488355328 ∧ (acc.length + 1 + 1) * 24 ≤ 140737488355328 ∧ acc.length + 1 ≤ j + 1 + 1 ∧ (p = false → acc.length + 1 ≤ j + 1)) := Lib.hid (acc_bd HL.out hlt2 HM24.out)
          clear hlow hsame hhigh hover U2 S2 S2' C2 SX hP HP hyn hB2 HOO HU HL
          cases p with
          | true =>
            have hov := HOV.out rfl
            have hne : (y == x) = false := by simpa using hov.2.1
            have HPN := Lib.hid hov.2.2
            clear hov HLO HSA HHI HOV
            go_wp2_with (first
              | (at_builtin; refine wpList_snocL rfl _ _ rfl wr.heap.size w.heap.size _ acc rfl HX.out rfl (.slice a2 yn d2) y (HU2.out.below HB2.out) HL2.out.1 HB2.out.size ?_)
              | fail)
            intro vw3 w3 nxw3 bw3
            have HX3 := Lib.hid nxw3
            have HB3 := Lib.hid (Below.trans HB2.out bw3)
            clear nxw3 bw3
            go_wp2_with fail
            go_roundw
            case rel => exact ⟨j + 1, _, true, rfl, by go_num, by omega, HPN.out, Lib.hid (len_one HL2.out.2.2.1 (fun h => by cases h)), HX3, HB3.out⟩
            case measure => simp [intOf]; omega
          | false =>
            by_cases hless : Op.bytesLess y x = true
            · have HPN := Lib.hid (HLO.out rfl hless)
              have hne : (y == x) = false := by rw [beq_eq_false_iff_ne]; intro e; rw [e, less_irrefl] at hless; cases hless
              clear HLO HSA HHI HOV
              go_wp2_with (first
                | (at_builtin; refine wpList_snocL rfl _ _ rfl wr.heap.size w.heap.size _ acc rfl HX.out rfl (.slice a2 yn d2) y (HU2.out.below HB2.out) HL2.out.1 HB2.out.size ?_)
                | fail)
              intro vw3 w3 nxw3 bw3
              have HX3 := Lib.hid nxw3
              have HB3 := Lib.hid (Below.trans HB2.out bw3)
              clear nxw3 bw3
              go_wp2_with fail
              go_roundw
              case rel => exact ⟨j + 1, _, false, rfl, by go_num, by omega, HPN, Lib.hid (len_one HL2.out.2.2.1 (fun _ => HL2.out.2.2.2 trivial)), HX3, HB3.out⟩
              case measure => simp [intOf]; omega
            · replace hless : Op.bytesLess y x = false := by simpa using hless
              by_cases hyx : y = x
              · have HPN := Lib.hid (HSA.out rfl hyx)
                have hne : (y == x) = true := by simp [hyx]
                clear HLO HSA HHI HOV hyx
                go_wp2_with (first
                  | (at_builtin; refine wpList_cloneR rfl _ _ rfl rfl a1 xn d1 rfl x HXN.out HSX.out (by rw [← HXN.out]; exact HXD.out) ?_)
                  | fail)
                intro Aw3 cw3 qw3 uw3 ew3
                obtain ⟨xmw3, hxmw3⟩ : ∃ k, k = x.length := ⟨_, rfl⟩
                rw [← hxmw3] at uw3 ⊢
                have HUw3 := Lib.hid uw3
                have HEw3 := Lib.hid ew3
                have NXqw3 := Lib.hid (HX.out.below ew3)
                have HMw3 := Lib.hid (show w.heap.size ≤ ws.heap.size from Nat.le_trans hsz HB2.out.size)
                have BEqw3 := Lib.hid (Below.trans HB2.out (ew3.mono HB2.out.size))
                have HXMw3 := Lib.hid hxmw3
                clear uw3 ew3 hxmw3
                go_wp2_with (first
                  | (at_builtin; refine wpList_snocL rfl _ _ rfl wr.heap.size w.heap.size _ acc rfl NXqw3.out rfl (.slice Aw3 xmw3 cw3) x (HUw3.out.mono HMw3.out) HL2.out.1 BEqw3.out.size ?_)
                  | fail)
                intro vw3 w3 nxw3 bw3
                have HX3 := Lib.hid nxw3
                have HB3 := Lib.hid (Below.trans BEqw3.out bw3)
                clear nxw3 bw3 HUw3 HEw3 NXqw3 BEqw3 HXMw3 HMw3
                have s2w3 := string_bys a2 y d2 w3 (HS2.out.on HB3.out).bys
                rw [← HYN.out] at s2w3
                have s1w3 := string_bys a1 x d1 w3 (HS1.out.on (Below.trans HB.out (HB3.out.mono HB.out.size))).bys
                rw [← HXN.out] at s1w3
                go_wp2_with fail
                go_roundw
                case rel => exact ⟨j + 1, _, true, rfl, by go_num, by omega, HPN, Lib.hid (len_one HL2.out.2.2.1 (fun h => by cases h)), HX3, HB3.out⟩
                case measure => simp [intOf]; omega
              · have HPN := Lib.hid (HHI.out rfl hless hyx)
                have hne : (y == x) = false := by simp [hyx]
                clear HLO HSA HHI HOV hyx
                go_wp2_with (first
                  | (at_builtin; refine wpList_cloneR rfl _ _ rfl rfl a1 xn d1 rfl x HXN.out HSX.out (by rw [← HXN.out]; exact HXD.out) ?_)
                  | fail)
                intro Aw3 cw3 qw3 uw3 ew3
                obtain ⟨xmw3, hxmw3⟩ : ∃ k, k = x.length := ⟨_, rfl⟩
                rw [← hxmw3] at uw3 ⊢
                have HUw3 := Lib.hid uw3
                have HEw3 := Lib.hid ew3
                have NXqw3 := Lib.hid (HX.out.below ew3)
                have HMw3 := Lib.hid (show w.heap.size ≤ ws.heap.size from Nat.le_trans hsz HB2.out.size)
                have BEqw3 := Lib.hid (Below.trans HB2.out (ew3.mono HB2.out.size))
                have HXMw3 := Lib.hid hxmw3
                clear uw3 ew3 hxmw3
                go_wp2_with (first
                  | (at_builtin; refine wpList_snocL rfl _ _ rfl wr.heap.size w.heap.size _ acc rfl NXqw3.out rfl (.slice Aw3 xmw3 cw3) x (HUw3.out.mono HMw3.out) HL2.out.1 BEqw3.out.size ?_)
                  | fail)
                intro vw3 w3 nxw3 bw3
                have HX3 := Lib.hid nxw3
                have HB3 := Lib.hid (Below.trans BEqw3.out bw3)
                clear nxw3 bw3 HUw3 HEw3 NXqw3 BEqw3 HXMw3 HMw3
                have s2w3 := string_bys a2 y d2 w3 (HS2.out.on HB3.out).bys
                rw [← HYN.out] at s2w3
                have s1w3 := string_bys a1 x d1 w3 (HS1.out.on (Below.trans HB.out (HB3.out.mono HB.out.size))).bys
                rw [← HXN.out] at s1w3
                go_wp2_with (first
                  | (at_builtin; refine wpList_snocL rfl _ _ rfl wr.heap.size w.heap.size _ (acc ++ [x]) rfl HX3.out rfl (.slice a2 yn d2) y (HU2.out.below HB3.out) (by rw [List.length_append]; exact HL2.out.2.1) HB3.out.size ?_)
                  | fail)
                intro vw4 w4 nxw4 bw4
                have HX4 := Lib.hid nxw4
                have HB4 := Lib.hid (Below.trans HB3.out bw4)
                clear nxw4 bw4
                go_wp2_with fail
                go_roundw
                case rel => exact ⟨j + 1, _, true, rfl, by go_num, by omega, HPN, Lib.hid (len_two (HL2.out.2.2.2 trivial)), HX4, HB4.out⟩
                case measure => simp [intOf]; omega
        · have hlt2' : ¬ (j : Int) < (m : Int) := by omega
          obtain rfl : j = m := by omega
          have hP := HP.out
          have hL := HL.out
          have HSX := Lib.hid SX
          have HB2 := Lib.hid hB2
          have HL2 : Hid ((acc.length + 1) * 24 ≤ 140737488355328) := Lib.hid (acc_be HL.out HM24.out)
          cases p with
          | true =>
            have hf : acc = orderP (L.take (k + 1)) := by rw [HT.out]; rw [HM.out] at hP; exact hP.done
            subst hf
            have HF := Lib.hid (HX.out.own hsz)
            have HBF := Lib.hid (Below.trans HB.out (HB2.out.mono HB.out.size))
            clear hP hL SX hB2 HP HL HX HSX HL2 HOO HU HT HM
            have hl := HLN.out
            go_wp2_with fail
            go_roundw
            case rel => exact ⟨k + 1, by go_num, by omega, HF, HBF.out⟩
            case measure => simp [intOf]; omega
          | false =>
            have hf : acc ++ [x] = orderP (L.take (k + 1)) := by rw [HT.out]; rw [HM.out] at hP; exact hP.last
            have HGG := Lib.hid hf
            clear hP hL SX hB2 HP HL HOO HU HT HM hf
            go_wp2_with (first
              | (at_builtin; refine wpList_cloneR rfl _ _ rfl rfl a1 xn d1 rfl x HXN.out HSX.out (by rw [← HXN.out]; exact HXD.out) ?_)
              | fail)
            intro Aw3 cw3 qw3 uw3 ew3
            obtain ⟨xmw3, hxmw3⟩ : ∃ k, k = x.length := ⟨_, rfl⟩
            rw [← hxmw3] at uw3 ⊢
            have HUw3 := Lib.hid uw3
            have HEw3 := Lib.hid ew3
            have NXqw3 := Lib.hid (HX.out.below ew3)
            have HMw3 := Lib.hid (show w.heap.size ≤ ws.heap.size from Nat.le_trans hsz HB2.out.size)
            have BEqw3 := Lib.hid (Below.trans HB2.out (ew3.mono HB2.out.size))
            have HXMw3 := Lib.hid hxmw3
            clear uw3 ew3 hxmw3
            go_wp2_with (first
              | (at_builtin; refine wpList_snocL rfl _ _ rfl wr.heap.size w.heap.size _ acc rfl NXqw3.out rfl (.slice Aw3 xmw3 cw3) x (HUw3.out.mono HMw3.out) HL2.out BEqw3.out.size ?_)
              | fail)
            intro vw3 w3 nxw3 bw3
            have HX3 := Lib.hid nxw3
            have HB3 := Lib.hid (Below.trans BEqw3.out bw3)
            clear nxw3 bw3 HUw3 HEw3 NXqw3 BEqw3 HXMw3 HMw3
            have HF := Lib.hid (HX3.out.own hsz)
            rw [HGG.out] at HF
            have HBF := Lib.hid (Below.trans HB.out (HB3.out.mono HB.out.size))
            clear HX3 HB3 HGG
            have hl := HLN.out
            go_wp2_with fail
            go_roundw
            case rel => exact ⟨k + 1, by go_num, by omega, HF, HBF.out⟩
            case measure => simp [intOf]; omega
    · have hlt' : ¬ (k : Int) < (n : Int) := by omega
      obtain rfl : k = n := by omega
      have hO := HO.out
      rw [HN.out, List.take_length] at hO
      clear HO HS
      go_wp2_with fail
      go_ret
      exact ⟨_, rfl, hO, hB⟩
end Go.Proofs.Ytbeggckkgaoacaa
