/-
  Replies of HTTP, plain bytes: what is written is read; a true beginning is too short.
-/
import Derived.Test.YtjhameebehkdjaaGreatDoorHtX
import Derived.Test.YtjhameebehkdjaaGreatDoorHtZ
namespace Go.Proofs.YtjhameebehkdjaaGreatDoor
open Go.RowKit
set_option linter.unusedVariables false
set_option maxRecDepth 100000

theorem pre_iff {a b : Bs} : a.isPrefixOf b = true ↔ a <+: b := List.isPrefixOf_iff_prefix
theorem val_app_le : ∀ (b a : Bs), valH a ≤ valH (a ++ b)
  | [], a => by simp
  | c :: b, a => by
    have h1 : valH (a ++ [c]) = 10 * valH a + (c.toNat - 48) := by simp [valH, List.foldl_append]
    have h2 := val_app_le b (a ++ [c])
    rw [List.append_assoc] at h2
    simp only [List.singleton_append] at h2
    omega
theorem canon : ∀ (n j : Nat), 0 < j → j ≤ (decD n).length → decD (valH ((decD n).take j)) = (decD n).take j := fun n => by
  induction n using Nat.strongRecOn with
  | ind n ih =>
    intro j h0 hj
    by_cases hfull : j = (decD n).length
    · rw [hfull, List.take_length, decD_val]
    · by_cases h10 : n < 10
      · exfalso
        have : (decD n).length = 1 := by unfold decD; rw [Go.Lib.decDigits, dif_pos h10]; rfl
        omega
      · have e : decD n = decD (n / 10) ++ [UInt8.ofNat (48 + n % 10)] := by
          unfold decD
          rw [Go.Lib.decDigits, dif_neg h10]
        have hj2 : j ≤ (decD (n / 10)).length := by
          have := congrArg List.length e
          simp at this
          omega
        rw [e, List.take_append_of_le_length hj2]
        exact ih (n / 10) (by omega) j h0 hj2
theorem while_dig {d r : Bs} {c : UInt8} (hd : d.all digH = true) (hc : digH c = false) : (d ++ c :: r).takeWhile digH = d := by
  induction d with
  | nil => simp [hc]
  | cons x d ih =>
    simp only [List.all_cons, Bool.and_eq_true] at hd
    simp [hd.1, ih hd.2]
theorem while_all {d : Bs} (hd : d.all digH = true) : d.takeWhile digH = d := by
  induction d with
  | nil => rfl
  | cons x d ih =>
    simp only [List.all_cons, Bool.and_eq_true] at hd
    simp [hd.1, ih hd.2]
def tailR (keep : Bool) : Bs := (if keep then [] else sClose) ++ crlf
theorem headR_told (n : Nat) (keep : Bool) : headR true n keep = sTold ++ (decD n ++ (13 :: 10 :: tailR keep)) := by
  have e : sOk ++ sLen = sTold := by decide
  unfold headR lenLine tailR
  rw [← e]
  simp [crlf]
/-- What is told. -/
theorem told_of {d q : Bs} (h : ((q.take 5).takeWhile digH) = d) : toldH (sTold ++ q) = (match decH d with | some n => if n ≤ 65535 then n else 0 | none => 0) := by
  have e72 : sTold.length = 72 := by decide
  unfold toldH
  rw [if_pos (pre_iff.2 (List.prefix_append _ _)), ← e72, List.drop_left' rfl, h]
  cases decH d <;> rfl
theorem decH_dec {n : Nat} (h : n ≤ 65535) : decH (decD n) = some n := by
  have hl := decD_len 4 n (by omega)
  unfold decH
  rw [if_pos ⟨by omega, by omega, decD_dig n⟩, decD_val]
theorem told_whole {n : Nat} (h : n ≤ 65535) (r : Bs) : toldH (sTold ++ (decD n ++ 13 :: r)) = n := by
  have hl := decD_len 4 n (by omega)
  rw [told_of (d := decD n), decH_dec h]
  · simp [h]
  · by_cases h5 : (decD n).length = 5
    · rw [← h5, List.take_left']
      exact while_all (decD_dig n)
      rfl
    · rw [List.take_append, List.take_of_length_le (by omega)]
      obtain ⟨k, hk⟩ : ∃ k, 5 - (decD n).length = k + 1 := ⟨5 - (decD n).length - 1, by omega⟩
      rw [hk, List.take_succ_cons]
      exact while_dig (decD_dig n) (by decide)
theorem dec_cancel {t n : Nat} {u v : Bs} (h : (decD t ++ 13 :: u) <+: (decD n ++ 13 :: v)) : t = n ∧ u <+: v := by
  obtain ⟨z, hz⟩ := h
  have h1 := congrArg (List.takeWhile digH) hz
  rw [show decD t ++ 13 :: u ++ z = decD t ++ 13 :: (u ++ z) by simp, while_dig (decD_dig t) (by decide), while_dig (decD_dig n) (by decide)] at h1
  have h2 := congrArg valH h1
  rw [decD_val, decD_val] at h2
  subst h2
  refine ⟨rfl, z, ?_⟩
  rw [show decD t ++ 13 :: u ++ z = decD t ++ 13 :: (u ++ z) by simp] at hz
  have := List.append_cancel_left hz
  injection this
theorem pre_cancel {a u v : Bs} (h : (a ++ u) <+: (a ++ v)) : u <+: v := (List.prefix_append_right_inj a).1 h
theorem tail_ne {k1 k2 : Bool} {v : Bs} (h : tailR k1 <+: (tailR k2 ++ v)) : k1 = k2 := by
  cases k1 <;> cases k2
  · rfl
  · obtain ⟨z, hz⟩ := h
    have := congrArg List.head? hz
    simp [tailR, sClose, crlf] at this
  · obtain ⟨z, hz⟩ := h
    have := congrArg List.head? hz
    simp [tailR, sClose, crlf] at this
  · rfl
/-- Heads of the code 200 within a reply. -/
theorem head_same {t n : Nat} {k1 k2 : Bool} {v : Bs} (h : headR true t k1 <+: (headR true n k2 ++ v)) : t = n ∧ k1 = k2 := by
  rw [headR_told, headR_told, List.append_assoc] at h
  have h1 := pre_cancel h
  rw [List.append_assoc, List.cons_append] at h1
  obtain ⟨e1, h2⟩ := dec_cancel h1
  rw [List.cons_append] at h2
  have h3 := (List.cons_prefix_cons.1 h2).2
  exact ⟨e1, tail_ne h3⟩
theorem head_bad {n m : Nat} {k1 k2 : Bool} {v : Bs} : ¬ headR false m k1 <+: (headR true n k2 ++ v) := by
  rintro ⟨z, hz⟩
  have := congrArg (fun l => l[9]?) hz
  have e1 : (headR false m k1 ++ z)[9]? = some 52 := by
    unfold headR
    rw [if_neg (by simp)]
    rfl
  have e2 : (headR true n k2 ++ v)[9]? = some 50 := by
    rw [headR_told]
    rfl
  simp only [e1, e2] at this
  cases this
/-- What is written is read. -/
theorem parse_whole {n : Nat} (h : n ≤ 65535) (keep : Bool) (b r : Bs) (hb : b.length = n) : parseR (headR true n keep ++ b ++ r) = (some (true, b, r), 0) := by
  have ht : toldH (headR true n keep ++ b ++ r) = n := by
    rw [headR_told]
    have : sTold ++ (decD n ++ (13 :: 10 :: tailR keep)) ++ b ++ r = sTold ++ (decD n ++ 13 :: (10 :: tailR keep ++ b ++ r)) := by simp
    rw [this]
    exact told_whole h _
  have hit : hitR (headR true n keep ++ b ++ r) (headR true n keep) n = some (some (b, r)) := by
    unfold hitR
    have e : (headR true n keep ++ b ++ r).drop (headR true n keep).length = b ++ r := by rw [List.append_assoc, List.drop_left']; rfl
    rw [if_pos (pre_iff.2 (by rw [List.append_assoc]; exact List.prefix_append _ _)), e, if_pos (by simp; omega), ← hb]
    simp
  unfold parseR candsR
  rw [ht]
  cases keep with
  | true => exact parseL_done hit
  | false =>
    have hno : hitR (headR true n false ++ b ++ r) (headR true n true) n = none := by
      unfold hitR
      rw [if_neg, if_neg]
      · rintro ⟨hl, -⟩
        rw [headR_told, headR_told] at hl
        simp [tailR] at hl
        omega
      · intro e
        have := pre_iff.1 e
        rw [List.append_assoc] at this
        cases (head_same this).2
    rw [parseL_none hno]
    exact parseL_done hit
/-- A step that is not the end. -/
theorem parseL_go {b : Bs} {ok kp : Bool} {m f : Nat} {r : List (Bool × Nat × Bool)} (h : ∀ x, hitR b (headR ok m kp) m ≠ some (some x)) : (parseL b ((ok, m, kp) :: r) f = parseL b r f ∧ hitR b (headR ok m kp) m = none) ∨ (parseL b ((ok, m, kp) :: r) f = parseL b r 20 ∧ hitR b (headR ok m kp) m = some none) := by
  cases e : hitR b (headR ok m kp) m with
  | none => exact .inl ⟨parseL_none e, rfl⟩
  | some o =>
    cases o with
    | none => exact .inr ⟨parseL_short e, rfl⟩
    | some x => exact absurd e (h x)
theorem hit_short {b h : Bs} {m : Nat} (hl : b.length < h.length) (hp : b <+: h) : hitR b h m = some none := by
  unfold hitR
  rw [if_neg, if_pos ⟨hl, pre_iff.2 hp⟩]
  intro e
  have := (pre_iff.1 e).length_le
  omega
/-- A true beginning of a reply is too short. -/
theorem parse_short {n : Nat} (h : n ≤ 65535) (keep : Bool) (b p : Bs) (hb : b.length = n) (hp : p <+: headR true n keep ++ b) (hl : p.length < (headR true n keep ++ b).length) : parseR p = (none, 20) := by
  obtain ⟨t, ht⟩ : ∃ t, t = toldH p := ⟨_, rfl⟩
  have no : ∀ (ok : Bool) (m : Nat) (k : Bool) x, hitR p (headR ok m k) m ≠ some (some x) := fun ok m k x e => by
    unfold hitR at e
    split at e
    · rename_i hq
      have hq' := pre_iff.1 hq
      cases ok with
      | false => exact head_bad (hq'.trans hp)
      | true =>
        obtain ⟨rfl, rfl⟩ := head_same (hq'.trans hp)
        split at e
        · rename_i hm
          rw [List.length_drop] at hm
          have := hq'.length_le
          rw [List.length_append] at hl
          omega
        · cases e
    · split at e <;> cases e
  have some1 : ∃ k, hitR p (headR true t k) t = some none := by
    have e72 : sTold.length = 72 := by decide
    have hwl : headR true n keep ++ b = sTold ++ (decD n ++ 13 :: (10 :: tailR keep ++ b)) := by rw [headR_told]; simp
    by_cases htn : t = n
    · refine ⟨keep, ?_⟩
      rw [htn]
      by_cases hq : headR true n keep <+: p
      · have hno := no true n keep
        unfold hitR at hno ⊢
        rw [if_pos (pre_iff.2 hq)] at hno ⊢
        by_cases hm : n ≤ (p.drop (headR true n keep).length).length
        · rw [if_pos hm] at hno
          exact absurd rfl (hno _)
        · rw [if_neg hm]
      · rcases List.prefix_or_prefix_of_prefix hp (List.prefix_append (headR true n keep) b) with hh | hh
        · refine hit_short ?_ hh
          have h1 := hh.length_le
          rcases Nat.lt_or_eq_of_le h1 with h2 | h2
          · exact h2
          · exact absurd (by rw [hh.eq_of_length h2]; exact List.prefix_refl _) hq
        · exact absurd hh hq
    · refine ⟨true, ?_⟩
      rw [hwl] at hp
      by_cases hk : p.length ≤ 72
      · have hps : p <+: sTold := by
          rcases List.prefix_or_prefix_of_prefix hp (List.prefix_append sTold _) with hh | hh
          · exact hh
          · have := hh.length_le
            rw [hh.eq_of_length (by omega)]
            exact List.prefix_refl _
        refine hit_short ?_ (hps.trans (by rw [headR_told]; exact List.prefix_append _ _))
        rw [headR_told]
        simp [e72]
        omega
      · obtain ⟨q, rfl⟩ : ∃ q, p = sTold ++ q := by
          rcases List.prefix_or_prefix_of_prefix hp (List.prefix_append sTold _) with hh | ⟨q, hq⟩
          · have := hh.length_le
            omega
          · exact ⟨q, hq.symm⟩
        have hq := pre_cancel hp
        have hdl := decD_len 4 n (by omega)
        by_cases hj : q.length ≤ (decD n).length
        · have hqd : q = (decD n).take q.length := by
            have h1 : q <+: decD n := by
              rcases List.prefix_or_prefix_of_prefix hq (List.prefix_append (decD n) _) with hh | hh
              · exact hh
              · have := hh.length_le
                rw [hh.eq_of_length (by omega)]
                exact List.prefix_refl _
            exact (List.prefix_iff_eq_take.1 h1)
          have hq0 : 0 < q.length := by simp [e72] at hk; omega
          have hall : q.all digH = true := by rw [hqd]; exact all_take (decD_dig n) _
          have hcan := canon n q.length hq0 hj
          rw [← hqd] at hcan
          have htq : t = valH q := by
            rw [ht, told_of (d := q) (by rw [List.take_of_length_le (by omega)]; exact while_all hall)]
            unfold decH
            rw [if_pos ⟨by omega, by omega, hall⟩]
            simp only
            rw [if_pos]
            have hv : valH q ≤ n := by
              have h1 := val_app_le ((decD n).drop q.length) ((decD n).take q.length)
              rw [List.take_append_drop, decD_val, ← hqd] at h1
              exact h1
            omega
          rw [htq]
          refine hit_short ?_ ?_
          · rw [headR_told, hcan]
            simp
          · rw [headR_told, hcan, ← List.append_assoc]
            exact List.prefix_append _ _
        · exfalso
          apply htn
          obtain ⟨u, hu⟩ : ∃ u, q = decD n ++ 13 :: u := by
            rcases List.prefix_or_prefix_of_prefix hq (List.prefix_append (decD n) _) with hh | ⟨z, hz⟩
            · have := hh.length_le; omega
            · rw [← hz] at hq
              have hz2 := pre_cancel hq
              cases z with
              | nil => rw [← hz] at hj; simp at hj
              | cons c z =>
                have := (List.cons_prefix_cons.1 hz2).1
                exact ⟨z, by rw [← hz, this]⟩
          rw [ht, hu]
          exact told_whole h u
  unfold parseR candsR
  rw [← ht]
  obtain ⟨k, hk⟩ := some1
  rcases parseL_go (f := 130) (r := [(true, t, false), (false, 0, false)]) (no true t true) with ⟨e1, n1⟩ | ⟨e1, n1⟩
  · rw [e1]
    cases k with
    | true => rw [n1] at hk; cases hk
    | false =>
      rw [parseL_short hk]
      rcases parseL_go (f := 20) (r := []) (no false 0 false) with ⟨e3, -⟩ | ⟨e3, -⟩ <;> rw [e3] <;> rfl
  · rw [e1]
    rcases parseL_go (f := 20) (r := [(false, 0, false)]) (no true t false) with ⟨e2, -⟩ | ⟨e2, -⟩ <;> rw [e2] <;>
    rcases parseL_go (f := 20) (r := []) (no false 0 false) with ⟨e3, -⟩ | ⟨e3, -⟩ <;> rw [e3] <;> rfl
end Go.Proofs.YtjhameebehkdjaaGreatDoor
