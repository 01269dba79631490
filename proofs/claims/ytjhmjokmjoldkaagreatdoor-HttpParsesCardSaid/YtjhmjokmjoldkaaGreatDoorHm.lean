/-
  Replies of HTTP, plain bytes: what is parsed, told by the bytes' own parts.
  The document's decimal.
  The document's begins and number.
  The document's ParseReply.
  The document's ParseReply, behind what every reply begins with.
  The walk of HttpParses.
  The tables of strconv and math/bits, as the row lists them; Itoa's contract.
-/
import Derived.Test.YtjhmjokmjoldkaaGreatDoorHtZa
import Derived.Test.YtjhmjokmjoldkaaGreatDoorHtV
import Derived.Test.YtjhmjokmjoldkaaGreatDoorEnN
import Derived.Test.YtjhmjokmjoldkaaGreatDoorQi
import Derived.Deep.CutBlock
import Derived.Deep.DeepCutAuto
import Derived.Test.YtjhmjokmjoldkaaGreatDoorHtW
import Derived.Shelf.Strconv.Itoa3
import Derived.Test.YtjhmjokmjoldkaaGreatDoorSh
import Derived.Lib.AppendIntMem
import Derived.Test.YtjhmjokmjoldkaaGreatDoorCards
import Derived.Lib.LaidTab
import Derived.Stop.LaidErr
import Derived.WalkSmall
namespace Go.Proofs.YtjhmjokmjoldkaaGreatDoor
open Go.RowKit
set_option linter.unusedVariables false
set_option maxRecDepth 100000

theorem at9 {h b : Bs} {x y : UInt8} (hh : h[9]? = some x) (hb : b[9]? = some y) (hne : x ≠ y) : ¬ h <+: b := by
  rintro ⟨z, e⟩
  have h9 : 9 < h.length := (List.getElem?_eq_some_iff.1 hh).1
  have : (h ++ z)[9]? = some x := by rw [List.getElem?_append_left h9]; exact hh
  rw [e, hb] at this
  exact hne (Option.some.inj this).symm
theorem good9 (t : Nat) (k : Bool) : (headR true t k)[9]? = some 50 := by rw [headR_told]; rfl
theorem told9 (q : Bs) : (sTold ++ q)[9]? = some 50 := rfl
theorem bad9 (r : Bs) : (headR false 0 false ++ r)[9]? = some 52 := by
  unfold headR
  rw [if_neg (by simp)]
  rfl
theorem bad9' : (headR false 0 false)[9]? = some 52 := by have := bad9 []; rwa [List.append_nil] at this
theorem bad66 : (headR false 0 false).length = 66 := by kernel_rfl
theorem hit_none {b h : Bs} {m : Nat} (h1 : ¬ h <+: b) (h2 : ¬ b <+: h) : hitR b h m = none := by
  unfold hitR
  rw [if_neg (fun e => h1 (pre_iff.1 e)), if_neg (fun e => h2 (pre_iff.1 e.2))]
theorem hit_yes {b h : Bs} {m : Nat} (h1 : h <+: b) (h2 : m ≤ (b.drop h.length).length) : hitR b h m = some (some ((b.drop h.length).take m, (b.drop h.length).drop m)) := by
  unfold hitR
  rw [if_pos (pre_iff.2 h1), if_pos h2]
theorem hit_few {b h : Bs} {m : Nat} (h1 : h <+: b) (h2 : ¬ m ≤ (b.drop h.length).length) : hitR b h m = some none := by
  unfold hitR
  rw [if_pos (pre_iff.2 h1), if_neg h2]
theorem hit_no {b h : Bs} {m : Nat} (h1 : ¬ h <+: b) (x : Bs × Bs) : hitR b h m ≠ some (some x) := by
  unfold hitR
  rw [if_neg (fun e => h1 (pre_iff.1 e))]
  split <;> simp
theorem len_lt {b h : Bs} (h1 : ¬ h <+: b) (h2 : b <+: h) : b.length < h.length := by
  rcases Nat.lt_or_ge b.length h.length with h3 | h3
  · exact h3
  · have := h2.eq_of_length_le h3
    exact absurd (this ▸ List.prefix_refl _) h1
theorem told_head (t : Nat) (k : Bool) : sTold <+: headR true t k := by rw [headR_told]; exact List.prefix_append _ _
theorem parse_bad {b : Bs} (h : headR false 0 false <+: b) : parseR b = (some (false, [], b.drop 66), 0) := by
  obtain ⟨r, rfl⟩ := h
  have no : ∀ t k m, hitR (headR false 0 false ++ r) (headR true t k) m = none := fun t k m => hit_none (at9 (good9 t k) (bad9 r) (by decide)) (at9 (bad9 r) (good9 t k) (by decide))
  unfold parseR candsR
  rw [parseL_none (no _ _ _), parseL_none (no _ _ _), parseL_done (hit_yes (List.prefix_append _ _) (Nat.zero_le _)), bad66]
  simp
theorem parse_far {b : Bs} (h1 : ¬ sTold <+: b) (h2 : ¬ b <+: sTold) (h3 : ¬ headR false 0 false <+: b) : parseR b = (none, if b <+: headR false 0 false then 20 else 130) := by
  have no : ∀ t k m, hitR b (headR true t k) m = none := fun t k m => hit_none (fun e => h1 ((told_head t k).trans e)) (fun e => by
    rcases List.prefix_or_prefix_of_prefix e (told_head t k) with h | h
    · exact h2 h
    · exact h1 h)
  unfold parseR candsR
  rw [parseL_none (no _ _ _), parseL_none (no _ _ _)]
  by_cases h : b <+: headR false 0 false
  · rw [if_pos h, parseL_short (hit_short (len_lt h3 h) h)]
    rfl
  · rw [if_neg h, parseL_none (hit_none h3 h)]
    rfl
theorem parse_near {b : Bs} (h : b <+: sTold) : parseR b = (none, 20) := by
  have e72 : sTold.length = 72 := by decide
  have st : ∀ t k m, hitR b (headR true t k) m = some none := fun t k m => hit_short (by
    have h1 := h.length_le
    rw [headR_told, List.length_append, List.length_append]
    simp
    omega) (h.trans (told_head t k))
  unfold parseR candsR
  rw [parseL_short (st _ _ _), parseL_short (st _ _ _)]
  rcases parseL_go (b := b) (ok := false) (kp := false) (m := 0) (f := 20) (r := []) (hit_no (fun e => at9 bad9' (told9 []) (by decide) (by rw [List.append_nil]; exact e.trans h))) with ⟨e, -⟩ | ⟨e, -⟩
  · rw [e]; rfl
  · rw [e]; rfl
/-- The same ahead of both. -/
theorem hit_cancel (a q X : Bs) (m : Nat) : hitR (a ++ q) (a ++ X) m = hitR q X m := by
  have e1 : (a ++ X).isPrefixOf (a ++ q) = X.isPrefixOf q := by
    rw [Bool.eq_iff_iff, pre_iff, pre_iff]
    exact List.prefix_append_right_inj a
  have e2 : (a ++ q).isPrefixOf (a ++ X) = q.isPrefixOf X := by
    rw [Bool.eq_iff_iff, pre_iff, pre_iff]
    exact List.prefix_append_right_inj a
  have e3 : (a ++ q).drop (a ++ X).length = q.drop X.length := by
    rw [List.length_append, ← List.drop_drop, List.drop_left']
    rfl
  unfold hitR
  rw [e1, e2, e3]
  simp only [List.length_append, Nat.add_lt_add_iff_left]
def R1 : Bs := [13, 10, 13, 10]
def R2 : Bs := [13, 10, 67, 111, 110, 110, 101, 99, 116, 105, 111, 110, 58, 32, 99, 108, 111, 115, 101, 13, 10, 13, 10]
theorem tail_1 : 13 :: 10 :: tailR true = R1 := by decide
theorem tail_2 : 13 :: 10 :: tailR false = R2 := by decide
def restP (q : Bs) (X1 X2 : Bs) (n : Nat) : Option (Bool × Bs × Bs) × Nat := match hitR q X1 n with
  | some (some (x, y)) => (some (true, x, y), 0)
  | some none => (match hitR q X2 n with
    | some (some (x, y)) => (some (true, x, y), 0)
    | _ => (none, 20))
  | none => (match hitR q X2 n with
    | some (some (x, y)) => (some (true, x, y), 0)
    | some none => (none, 20)
    | none => (none, 130))
theorem parse_q {q : Bs} (hq : q ≠ []) : parseR (sTold ++ q) = restP q (decD (toldH (sTold ++ q)) ++ R1) (decD (toldH (sTold ++ q)) ++ R2) (toldH (sTold ++ q)) := by
  unfold parseR candsR
  generalize toldH (sTold ++ q) = n
  have b0 : hitR (sTold ++ q) (headR false 0 false) 0 = none := hit_none (at9 bad9' (told9 q) (by decide)) (at9 (told9 q) bad9' (by decide))
  have e1 : hitR (sTold ++ q) (headR true n true) n = hitR q (decD n ++ R1) n := by rw [headR_told, tail_1, hit_cancel]
  have e2 : hitR (sTold ++ q) (headR true n false) n = hitR q (decD n ++ R2) n := by rw [headR_told, tail_2, hit_cancel]
  unfold restP
  rw [← e1, ← e2]
  rcases h1 : hitR (sTold ++ q) (headR true n true) n with _ | _ | ⟨x, y⟩
  · rw [parseL_none h1]
    rcases h2 : hitR (sTold ++ q) (headR true n false) n with _ | _ | ⟨x, y⟩
    · rw [parseL_none h2, parseL_none b0]; rfl
    · rw [parseL_short h2, parseL_none b0]; rfl
    · rw [parseL_done h2]
  · rw [parseL_short h1]
    rcases h2 : hitR (sTold ++ q) (headR true n false) n with _ | _ | ⟨x, y⟩
    · rw [parseL_none h2, parseL_none b0]; rfl
    · rw [parseL_short h2, parseL_none b0]; rfl
    · rw [parseL_done h2]
  · rw [parseL_done h1]
/-! Digits. -/
theorem while_stop {p : UInt8 → Bool} : ∀ {l d : Bs} {c : UInt8} {r : Bs}, l.takeWhile p = d → l = d ++ c :: r → p c = false := by
  intro l d c r h1 h2
  subst h2
  induction d with
  | nil => 
    cases hp : p c with
    | false => rfl
    | true => simp [hp] at h1
  | cons x d ih =>
    rw [List.cons_append] at h1
    cases hx : p x with
    | false => simp [hx] at h1
    | true =>
      rw [List.takeWhile_cons_of_pos hx] at h1
      injection h1 with _ h1
      exact ih h1
def digsD (q : Bs) : Bs := (q.take 6).takeWhile digH
theorem digsD_pre (q : Bs) : digsD q <+: q := (List.takeWhile_prefix _).trans (List.take_prefix _ _)
theorem digsD_all (q : Bs) : (digsD q).all digH = true := by
  unfold digsD
  generalize q.take 6 = l
  induction l with
  | nil => rfl
  | cons c l ih =>
    cases h : digH c with
    | true => simp [h, ih]
    | false => simp [h]
theorem digsD_len (q : Bs) : (digsD q).length ≤ 6 := by
  have h := (List.takeWhile_prefix (p := digH) (l := q.take 6)).length_le
  rw [List.length_take] at h
  unfold digsD
  omega
theorem digsD_rest {q : Bs} (h : (digsD q).length ≤ 5) : ∃ r, q = digsD q ++ r ∧ ∀ c t, r = c :: t → digH c = false := by
  obtain ⟨r, hr⟩ := digsD_pre q
  refine ⟨r, hr.symm, fun c t e => ?_⟩
  subst e
  refine while_stop (l := q.take 6) (d := digsD q) (r := t.take (5 - (digsD q).length)) rfl ?_
  conv => lhs; rw [← hr]
  rw [List.take_append, List.take_of_length_le (by omega), show 6 - (digsD q).length = (5 - (digsD q).length) + 1 by omega, List.take_succ_cons]
theorem digsD_stop {d : Bs} {c : UInt8} {r : Bs} (hd : d.all digH = true) (hl : d.length ≤ 5) (hc : digH c = false) : digsD (d ++ c :: r) = d := by
  unfold digsD
  rw [List.take_append, List.take_of_length_le (by omega), show 6 - d.length = (5 - d.length) + 1 by omega, List.take_succ_cons]
  exact while_dig hd hc
theorem digsD_whole {d : Bs} (hd : d.all digH = true) (hl : d.length ≤ 6) : digsD d = d := by
  unfold digsD
  rw [List.take_of_length_le hl]
  exact while_all hd
/-- The digits are those of a length. -/
def lenD (d : Bs) : Prop := ∃ n, n ≤ 65535 ∧ d = decD n
theorem told_any {n : Nat} (h : n ≤ 65535) (r : Bs) (hr : ∀ c t, r = c :: t → digH c = false) : toldH (sTold ++ (decD n ++ r)) = n := by
  have hl := decD_len 4 n (by omega)
  rw [told_of (d := decD n), decH_dec h]
  · simp [h]
  · by_cases h5 : (decD n).length = 5
    · rw [← h5, List.take_left']
      exact while_all (decD_dig n)
      rfl
    · rw [List.take_append, List.take_of_length_le (by omega)]
      obtain ⟨k, hk⟩ : ∃ k, 5 - (decD n).length = k + 1 := ⟨5 - (decD n).length - 1, by omega⟩
      rw [hk]
      cases r with
      | nil => simp only [List.take_nil, List.append_nil]; exact while_all (decD_dig n)
      | cons c t =>
        rw [List.take_succ_cons]
        exact while_dig (decD_dig n) (hr c t rfl)
theorem toldH_65535 (b : Bs) : toldH b ≤ 65535 := toldH_le b
/-- No length's digits. -/
theorem parse_none {q : Bs} (hq : q ≠ []) (hd : ¬ lenD (digsD q)) : parseR (sTold ++ q) = (none, 130) := by
  rw [parse_q hq]
  have hn := toldH_le (sTold ++ q)
  generalize toldH (sTold ++ q) = n at hn
  have hl := decD_len 4 n (by omega)
  have c1 : ∀ u, ¬ (decD n ++ 13 :: u) <+: q := fun u ⟨z, e⟩ => hd ⟨n, hn, by
    rw [← e, show decD n ++ 13 :: u ++ z = decD n ++ 13 :: (u ++ z) by simp]
    exact digsD_stop (decD_dig n) (by omega) (by decide)⟩
  have c2 : ∀ u, ¬ q <+: (decD n ++ 13 :: u) := fun u e => by
    rcases List.prefix_or_prefix_of_prefix e (List.prefix_append (decD n) (13 :: u)) with h | h
    · have h1 := h.length_le
      have h0 : 0 < q.length := List.length_pos_iff.2 hq
      have e1 : q = (decD n).take q.length := List.prefix_iff_eq_take.1 h
      have h2 := canon n q.length h0 h1
      rw [← e1] at h2
      have hall : q.all digH = true := by
        rw [e1]
        exact List.all_eq_true.2 fun x hx => List.all_eq_true.1 (decD_dig n) x (List.mem_of_mem_take hx)
      refine hd ⟨valH q, ?_, ?_⟩
      · obtain ⟨z, hz⟩ := h
        have := val_app_le z q
        rw [hz, decD_val] at this
        omega
      · rw [digsD_whole hall (by omega)]
        exact h2.symm
    · obtain ⟨r, rfl⟩ := h
      have h3 := pre_cancel e
      cases r with
      | nil =>
        refine hd ⟨n, hn, ?_⟩
        rw [List.append_nil]
        exact digsD_whole (decD_dig n) (by omega)
      | cons c t =>
        have := (List.cons_prefix_cons.1 h3).1
        subst this
        exact hd ⟨n, hn, digsD_stop (decD_dig n) (by omega) (by decide)⟩
  unfold restP
  rw [show R1 = 13 :: [10, 13, 10] from rfl, hit_none (c1 _) (c2 _), show R2 = 13 :: R2.tail from rfl, hit_none (c1 _) (c2 _)]
/-- A length's digits, and what stands behind. -/
theorem parse_len {n : Nat} (h : n ≤ 65535) (r : Bs) (hr : ∀ c t, r = c :: t → digH c = false) : parseR (sTold ++ (decD n ++ r)) = restP r R1 R2 n := by
  have hl := decD_len 4 n (by omega)
  rw [parse_q (fun e => by rw [(List.append_eq_nil_iff.1 e).1] at hl; simp at hl), told_any h r hr]
  unfold restP
  rw [hit_cancel, hit_cancel]
theorem rest_1 {r : Bs} {n : Nat} (h : R1 <+: r) (hn : n ≤ (r.drop 4).length) : restP r R1 R2 n = (some (true, (r.drop 4).take n, (r.drop 4).drop n), 0) := by
  unfold restP
  rw [hit_yes h hn]
  rfl
theorem no_2 {r : Bs} (h : R1 <+: r) : ¬ R2 <+: r := by
  rintro ⟨z, e⟩
  obtain ⟨y, rfl⟩ := h
  have := congrArg (fun l => l[2]?) e
  have e1 : (R2 ++ z)[2]? = some 67 := rfl
  have e2 : (R1 ++ y)[2]? = some 13 := rfl
  simp only [e1, e2] at this
  cases this
theorem rest_1' {r : Bs} {n : Nat} (h : R1 <+: r) (hn : ¬ n ≤ (r.drop 4).length) : restP r R1 R2 n = (none, 20) := by
  unfold restP
  rw [hit_few h hn]
  have := hit_no (m := n) (no_2 h)
  rcases h2 : hitR r R2 n with _ | _ | x
  · rfl
  · rfl
  · exact absurd h2 (this x)
theorem rest_1s {r : Bs} {n : Nat} (h : ¬ R1 <+: r) (h2 : r <+: R1) : restP r R1 R2 n = (none, 20) := by
  unfold restP
  rw [hit_short (len_lt h h2) h2]
  have := hit_no (m := n) (b := r) (h := R2) (fun e => by have h3 := e.length_le; have h4 := h2.length_le; rw [show R2.length = 23 from rfl] at h3; rw [show R1.length = 4 from rfl] at h4; omega)
  rcases h2 : hitR r R2 n with _ | _ | x
  · rfl
  · rfl
  · exact absurd h2 (this x)
theorem rest_2 {r : Bs} {n : Nat} (h : ¬ R1 <+: r) (h2 : ¬ r <+: R1) (h3 : R2 <+: r) (hn : n ≤ (r.drop 23).length) : restP r R1 R2 n = (some (true, (r.drop 23).take n, (r.drop 23).drop n), 0) := by
  unfold restP
  rw [hit_none h h2, hit_yes h3 hn]
  rfl
theorem rest_2' {r : Bs} {n : Nat} (h : ¬ R1 <+: r) (h2 : ¬ r <+: R1) (h3 : R2 <+: r) (hn : ¬ n ≤ (r.drop 23).length) : restP r R1 R2 n = (none, 20) := by
  unfold restP
  rw [hit_none h h2, hit_few h3 hn]
theorem rest_2s {r : Bs} {n : Nat} (h : ¬ R1 <+: r) (h2 : ¬ r <+: R1) (h3 : ¬ R2 <+: r) (h4 : r <+: R2) : restP r R1 R2 n = (none, 20) := by
  unfold restP
  rw [hit_none h h2, hit_short (len_lt h3 h4) h4]
theorem rest_3 {r : Bs} {n : Nat} (h : ¬ R1 <+: r) (h2 : ¬ r <+: R1) (h3 : ¬ R2 <+: r) (h4 : ¬ r <+: R2) : restP r R1 R2 n = (none, 130) := by
  unfold restP
  rw [hit_none h h2, hit_none h3 h4]
end Go.Proofs.YtjhmjokmjoldkaaGreatDoor
namespace Go.Proofs.YtjhmjokmjoldkaaGreatDoor
open Go.RowKit
set_option linter.unusedVariables false
set_option maxRecDepth 100000

def dgt (k : Nat) : Bs := [UInt8.ofNat (48 + k)]
theorem decD_low {n : Nat} (h : n < 10) : decD n = dgt n := by
  unfold decD
  rw [Go.Lib.decDigits, dif_pos h]
  rfl
theorem decD_high {n : Nat} (h : ¬ n < 10) : decD n = decD (n / 10) ++ dgt (n % 10) := by
  unfold decD
  rw [Go.Lib.decDigits, dif_neg h]
  rfl
theorem dig_slice (k : Nat) (hk : k < 10) (w : World) : (Instr.slice 9 (.string ⟨#[48, 49, 50, 51, 52, 53, 54, 55, 56, 57]⟩) (some (.int .i64 k)) (some (.int .i64 ((k : Int) + 1))) none).run Tryz.prog w = .ok (.string (bs (dgt k))) w := by
  have e : (⟨#[48, 49, 50, 51, 52, 53, 54, 55, 56, 57]⟩ : ByteArray) = bs [48, 49, 50, 51, 52, 53, 54, 55, 56, 57] := rfl
  rw [e, run_slice_string w 9 _ _ _ _ _ Tryz.underlying9 (by omega) (by omega) (by rw [bs_size]; simp; omega), bs_extract]
  have h1 : ((k : Int)).toNat = k := by omega
  have h2 : ((k : Int) + 1).toNat - ((k : Int)).toNat = 1 := by omega
  have h : k = 0 ∨ k = 1 ∨ k = 2 ∨ k = 3 ∨ k = 4 ∨ k = 5 ∨ k = 6 ∨ k = 7 ∨ k = 8 ∨ k = 9 := by omega
  have e2 : (([48, 49, 50, 51, 52, 53, 54, 55, 56, 57] : Bs).drop k).take 1 = dgt k := by
    rcases h with rfl | rfl | rfl | rfl | rfl | rfl | rfl | rfl | rfl | rfl <;> rfl
  first
    | rw [h1, show ((k : Int) + 1).toNat - k = 1 by omega, e2]
    | (rw [h2, h1, e2])
set_option maxHeartbeats 1000000 in
theorem decR_any (n : Nat) : n ≤ 65535 → ∀ w, Calls Tryz.prog 22 #[.int .i64 n] w fun e w' => e = .returned (.string (bs (decD n))) ∧ Below w.heap.size w w' := by
  induction n using Nat.strongRecOn with
  | _ n ih =>
    intro hn w
    obtain ⟨k, hk⟩ : ∃ k, k = n % 10 := ⟨_, rfl⟩
    obtain ⟨q, hq⟩ : ∃ q, q = n / 10 := ⟨_, rfl⟩
    have hk10 : k < 10 := by omega
    have h1 : Int.tmod (n : Int) 10 = (k : Int) := by rw [Int.tmod_eq_emod_of_nonneg (by omega)]; omega
    have h2 : Int.tdiv (n : Int) 10 = (q : Int) := by rw [Int.tdiv_eq_ediv_of_nonneg (by omega)]; omega
    have h3 : (n : Int) / 10 = (q : Int) := by omega
    have h4 : (n : Int) % 10 = (k : Int) := by omega
    have h5 : n / 10 = q := by omega
    have h6 : n % 10 = k := by omega
    have sp := fun w => dig_slice k hk10 w
    have hd : 0 < (dgt k).length ∧ (dgt k).length ≤ 1 := by simp [dgt]
    by_cases h10 : n < 10
    · have HD : Hid (decD n = dgt k) := Lib.hid (by rw [decD_low h10]; congr 1; omega)
      have h10' : (n : Int) < 10 := by omega
      generalize dgt k = d at *
      clear ih hk hq
      go_enter Tryz.func22, Tryz.ntmps22
      go_wp2_with fail
      go_ret
      exact ⟨by rw [HD.out]; rfl, Below.refl _ _⟩
    · have HD : Hid (bs (decD n) = bs (decD q) ++ bs (dgt k)) := Lib.hid (by rw [decD_high h10, bs_append, ← hq, ← hk])
      have h10' : ¬ (n : Int) < 10 := by omega
      have IH := Lib.hid (ih q (by omega) (by omega))
      have hql := (decD_len 14 q (by omega)).1
      have hs : (decD q).length + (dgt k).length ≤ 9223372036854775807 := by omega
      rw [HD.out]
      clear HD
      generalize dgt k = d at *
      generalize decD q = dq at *
      clear ih hk hq hql
      go_enter Tryz.func22, Tryz.ntmps22
      go_wp2_with fail
      refine (IH.out _).mono ?_
      rintro e w1 ⟨rfl, k1⟩
      go_wp2_with fail
      go_ret
      exact ⟨rfl, k1⟩
end Go.Proofs.YtjhmjokmjoldkaaGreatDoor
namespace Go.Proofs.YtjhmjokmjoldkaaGreatDoor
open Go.RowKit
set_option linter.unusedVariables false
set_option maxRecDepth 100000

def begB (a p : Bs) : Bool := a.isPrefixOf p || p.isPrefixOf a
theorem beg_take (a p : Bs) : (a.take (min a.length p.length) == p.take (min a.length p.length)) = begB a p := by
  unfold begB
  rcases Nat.le_total a.length p.length with h | h
  · rw [Nat.min_eq_left h, List.take_length, Bool.eq_iff_iff, beq_iff_eq, Bool.or_eq_true, pre_iff, pre_iff]
    constructor
    · exact fun e => .inl (List.prefix_iff_eq_take.2 e)
    · rintro (e | e)
      · exact List.prefix_iff_eq_take.1 e
      · have := e.eq_of_length_le h
        rw [this, List.take_length]
  · rw [Nat.min_eq_right h, List.take_length, Bool.eq_iff_iff, beq_iff_eq, Bool.or_eq_true, pre_iff, pre_iff]
    constructor
    · exact fun e => .inr (List.prefix_iff_eq_take.2 e.symm)
    · rintro (e | e)
      · have := e.eq_of_length_le h
        rw [this, List.take_length]
      · exact (List.prefix_iff_eq_take.1 e).symm
set_option maxHeartbeats 400000 in
theorem begins_any (a p : Bs) (w : World) (h1 : a.length ≤ 9223372036854775807) (h2 : p.length ≤ 9223372036854775807) : Calls Tryz.prog 19 #[.string (bs a), .string (bs p)] w fun e w' => e = .returned (.bool (begB a p)) ∧ Below w.heap.size w w' := by
  have z1 := bs_size a
  have z2 := bs_size p
  obtain ⟨n, hn⟩ : ∃ n, n = min a.length p.length := ⟨_, rfl⟩
  rw [← beg_take a p, ← hn]
  have hmin : min (a.length : Int) (p.length : Int) = (n : Int) := by omega
  have sa : ∀ w : World, (Instr.slice 9 (.string (bs a)) none (some (.int .i64 (n : Int))) none).run Tryz.prog w = .ok (.string (bs (a.take n))) w := fun w => by
    rw [run_slice_string_h w 9 _ Tryz.underlying9 _ _ (by omega) (by rw [z1]; omega), bs_extract, Nat.sub_zero, List.drop_zero, Int.toNat_natCast]
  have sp : ∀ w : World, (Instr.slice 9 (.string (bs p)) none (some (.int .i64 (n : Int))) none).run Tryz.prog w = .ok (.string (bs (p.take n))) w := fun w => by
    rw [run_slice_string_h w 9 _ Tryz.underlying9 _ _ (by omega) (by rw [z2]; omega), bs_extract, Nat.sub_zero, List.drop_zero, Int.toNat_natCast]
  generalize a.take n = x at *
  generalize p.take n = y at *
  obtain ⟨r, hr⟩ : ∃ r, (x == y) = r := ⟨_, rfl⟩
  rw [hr]
  generalize ha : a.length = la at *
  generalize hp : p.length = lp at *
  clear ha hp hn
  go_enter Tryz.func19, Tryz.ntmps19
  go_wp2_with fail
  go_region
  go_wp2_with fail
  go_ret
  exact ⟨by first | rfl | (rw [← hr]; rfl), by first | exact Below.refl _ _ | exact Below.drew (Below.refl _ _)⟩

/-! number. -/
def numZ (s : Bs) : Int := match numH s with | some n => n | none => -1
theorem numH_not {s : Bs} (k : Nat) (hk : k < s.length) (h : digH s[k] = false) : numZ s = -1 := by
  have : decH s = none := by
    unfold decH
    rw [if_neg]
    rintro ⟨_, _, h3⟩
    have := List.all_eq_true.1 h3 s[k] (List.getElem_mem _)
    rw [h] at this
    cases this
  unfold numZ numH
  rw [this]
theorem numH_len {s : Bs} (h : s.length < 1 ∨ 5 < s.length) : numZ s = -1 := by
  have : decH s = none := by
    unfold decH
    rw [if_neg]
    omega
  unfold numZ numH
  rw [this]
theorem numH_val {s : Bs} (h1 : 1 ≤ s.length) (h5 : s.length ≤ 5) (h : s.all digH = true) : numZ s = if 65535 < valH s then -1 else (valH s : Int) := by
  have : decH s = some (valH s) := by
    unfold decH
    rw [if_pos ⟨h1, h5, h⟩]
  unfold numZ numH
  rw [this]
  by_cases h2 : 65535 < valH s
  · rw [if_pos h2]
    simp only
    rw [if_neg (by omega)]
  · rw [if_neg h2]
    simp only
    rw [if_pos (by omega)]
set_option maxHeartbeats 1000000 in
theorem number_any (s : Bs) (w : World) (hs : s.length ≤ 9223372036854775807) : Calls Tryz.prog 21 #[.string (bs s)] w fun e w' => e = .returned (.int .i64 (numZ s)) ∧ w' = w := by
  have z1 := bs_size s
  by_cases h1 : s.length < 1
  · rw [numH_len (.inl h1)]
    have h1' : (s.length : Int) < 1 := by omega
    go_enter Tryz.func21, Tryz.ntmps21
    go_wp2_with fail
    go_ret
    exact ⟨rfl, rfl⟩
  have h1' : ¬ (s.length : Int) < 1 := by omega
  by_cases h5 : 5 < s.length
  · rw [numH_len (.inr h5)]
    have h5' : (s.length : Int) > 5 := by omega
    go_enter Tryz.func21, Tryz.ntmps21
    go_wp2_with fail
    go_ret
    exact ⟨rfl, rfl⟩
  have h5' : ¬ (s.length : Int) > 5 := by omega
  have HN := Lib.hid (fun k hk h => numH_not (s := s) k hk h)
  have HV := Lib.hid (fun h => numH_val (s := s) (by omega) (by omega) h)
  have HB := Lib.hid (fun k (h : (s.take k).all digH = true) => val_bd 5 (s.take k) (by rw [List.length_take]; omega) h)
  have HS := Lib.hid (fun k (hk : k < s.length) => (show valH (s.take (k + 1)) = 10 * valH (s.take k) + (s[k].toNat - 48) by rw [take_snocB s k hk, val_snoc]))
  have HA := Lib.hid (fun k (hk : k < s.length) (h : (s.take k).all digH = true) (hd : digH s[k] = true) => (show (s.take (k + 1)).all digH = true by rw [take_snocB s k hk, List.all_append, h]; simpa using hd))
  go_enter Tryz.func21, Tryz.ntmps21
  go_wp2_with fail
  go_loop [3, 4] (fun n i => ∃ k : Nat, k ≤ s.length ∧ i = .int .i64 k ∧ n = .int .i64 (valH (s.take k)) ∧ (s.take k).all digH = true) (fun _ i => s.length - (intOf i).toNat)
  case atStart => exact ⟨0, by omega, rfl, rfl, rfl⟩
  case round =>
    obtain ⟨k, hk, rfl, rfl, hall⟩ := hrel
    have hv := HB.out k hall
    by_cases hlt : k < s.length
    · have HN2 := Lib.hid (HN.out k hlt)
      have HS2 := Lib.hid (HS.out k hlt)
      have HA2 := Lib.hid (HA.out k hlt hall)
      have hlt' : (k : Int) < (s.length : Int) := by omega
      have hb : ((bs s)[k]'(by rw [bs_size]; exact hlt)).toNat = s[k].toNat := rfl
      have hdg : digH s[k] = decide (48 ≤ s[k].toNat ∧ s[k].toNat ≤ 57) := rfl
      rw [hdg] at HN2 HA2
      generalize valH (s.take k) = v at *
      generalize s[k].toNat = b at *
      clear hdg HV HB HN HS HA hall
      by_cases hlo : b < 48
      · have a1 : (b : Int) < 48 := by omega
        have HF : Hid (numZ s = -1) := Lib.hid (HN2.out (by rw [decide_eq_false_iff_not]; omega))
        clear HN2 HS2 HA2
        go_wp2_with fail
        go_returns
        exact ⟨by rw [HF.out]; rfl, rfl⟩
      · have a1 : ¬ (b : Int) < 48 := by omega
        by_cases hhi : 57 < b
        · have a2 : (b : Int) > 57 := by omega
          have HF : Hid (numZ s = -1) := Lib.hid (HN2.out (by rw [decide_eq_false_iff_not]; omega))
          clear HN2 HS2 HA2
          go_wp2_with fail
          go_returns
          exact ⟨by rw [HF.out]; rfl, rfl⟩
        · have a2 : ¬ (b : Int) > 57 := by omega
          have w1 : IntKind.u8.wrap ((b : Int) - 48) = (b : Int) - 48 := IntWalk.u8_in _ (by omega)
          have HD := Lib.hid (HA2.out (by rw [decide_eq_true_eq]; omega))
          clear HN2 HA2
          go_wp2_with fail
          go_round
          case rel => exact ⟨k + 1, by omega, by go_num, by rw [HS2.out]; go_num, HD.out⟩
          case measure => simp [intOf]; omega
    · obtain rfl : k = s.length := by omega
      have hlt' : ¬ (s.length : Int) < (s.length : Int) := by omega
      rw [List.take_length] at hall hv
      have HF := Lib.hid (HV.out hall)
      rw [List.take_length]
      generalize valH s = v at *
      clear HN HB HS HA hall HV
      by_cases hbig : 65535 < v
      · have a1 : (v : Int) > 65535 := by omega
        go_wp2_with fail
        go_returns
        exact ⟨by rw [HF.out, if_pos hbig]; rfl, rfl⟩
      · have a1 : ¬ (v : Int) > 65535 := by omega
        go_wp2_with fail
        go_returns
        exact ⟨by rw [HF.out, if_neg hbig]; rfl, rfl⟩
/-- The digits are a length's: as the document says it. -/
theorem num_len (d : Bs) : (numZ d = -1 ∧ ¬ lenD d) ∨ ∃ n : Nat, numZ d = n ∧ n ≤ 65535 ∧ ((decD n ≠ d ∧ ¬ lenD d) ∨ d = decD n) := by
  have h0 : ∀ m, m ≤ 65535 → d = decD m → numZ d = m := fun m hm e => by
    unfold numZ
    rw [e, numH_dec hm]
  cases h : numH d with
  | none =>
    refine .inl ⟨by unfold numZ; rw [h], ?_⟩
    rintro ⟨m, hm, e⟩
    have := numH_dec hm
    rw [← e, h] at this
    cases this
  | some n =>
    have hz : numZ d = n := by unfold numZ; rw [h]
    have hn : n ≤ 65535 := by
      unfold numH at h
      split at h
      · split at h
        · injection h with h; omega
        · cases h
      · cases h
    refine .inr ⟨n, hz, hn, ?_⟩
    by_cases e : d = decD n
    · exact .inr e
    · refine .inl ⟨fun e2 => e e2.symm, ?_⟩
      rintro ⟨m, hm, e2⟩
      have := h0 m hm e2
      rw [hz] at this
      obtain rfl : n = m := by omega
      exact e e2
end Go.Proofs.YtjhmjokmjoldkaaGreatDoor
namespace Go.Proofs.YtjhmjokmjoldkaaGreatDoor
open Go.RowKit
set_option linter.unusedVariables false
set_option maxRecDepth 100000

theorem badL_eq : headR false 0 false = [72, 84, 84, 80, 47, 49, 46, 49, 32, 52, 48, 48, 32, 66, 97, 100, 32, 82, 101, 113, 117, 101, 115, 116, 13, 10, 67, 111, 110, 116, 101, 110, 116, 45, 76, 101, 110, 103, 116, 104, 58, 32, 48, 13, 10, 67, 111, 110, 110, 101, 99, 116, 105, 111, 110, 58, 32, 99, 108, 111, 115, 101, 13, 10, 13, 10] := by kernel_rfl
theorem getD_both_true {b : Array Bool} {k : Nat} (h : b.getD k false = true) : b.getD k true = true := by
  rcases Nat.lt_or_ge k b.size with h' | h'
  · simp [h'] at h ⊢; exact h
  · simp [Array.getElem?_eq_none h'] at h
theorem slot_of {a : Act} {j : Nat} {v : Value} (h : a.tmps[j]? = some v) : (a.tmps[j]?).getD undef = v := by rw [h]; rfl
theorem wp_app2 {o : Oper} {a : Act} {w : World} {K : Act → World → Prop} {Q : Exit → Act → World → Prop} (hgd : o.guard = none) (x y : Operand) (ts : Array TypeId) (ho : o.op = .call { callee := .builtin .append, args := #[x, y], argTypes := ts }) (u v : Value) (hs : a.eval x = u) (hx : a.eval y = v) {v' : Value} {w' : World}
    (hr : (Builtin.append_ ts o.type #[u, v]).run Tryz.prog w = .ok v' w') (h : K (a.put o.dst v') w') : Oper.wp Tryz.prog o a w K Q := by
  unfold Oper.wp execOp
  simp only [ho, resolve, invoke, builtin, Sem.run_bind, Sem.run_pure, Result.andThen_ok, List.map_toArray, List.map_cons, List.map_nil, hs, hx, hr]
  exact h
/-- append of bytes onto a slice of the call's own that has none, and no room. -/
theorem run_ontoB {W : World} {A : Option Addr} {m c g B : Nat} {d : Bs} (hm : m = d.length) (hS : Bys W A d) (hA : A = none → c = 0) (hl : d.length ≤ 140737488351232) (hb : B ≤ g) (hg0 : g < W.heap.size) :
    ∃ v' w', (Builtin.append_ #[22, 22] 22 #[.slice (some ⟨g, 0, none⟩) 0 0, .slice A m c]).run Tryz.prog W = .ok v' w' ∧ OwnB w' B v' d ∧ Below W.heap.size W w' := by
  obtain ⟨i0, hi, hz0, hz1, hz2⟩ := info_parts info_u8
  subst hm
  by_cases h0 : d.length = 0
  · obtain rfl : d = [] := List.length_eq_zero_iff.1 h0
    refine ⟨.slice (some ⟨g, 0, none⟩) 0 0, W, ?_, .inr ⟨g, 0, rfl, hb, hg0, Nat.le_refl _, by unfold maxLen; omega, fun j hj => absurd hj (by simp), fun j h1 h2 => by omega⟩, Below.refl _ _⟩
    cases A with
    | none =>
      obtain rfl := hA rfl
      simp [Builtin.append_, run_underlying Tryz.underlying22, sizeOf, typeInfo, hi, Builtin.lenOf, Builtin.firstCells, storeCells, Result.andThen]
    | some ad =>
      have hr := run_append_room_cells (P := Tryz.prog) W 22 22 5 i0 Tryz.underlying22 hi g 0 0 0 ad 0 c [] (by simp) (fun j u hj => by simp at hj) (fun u hu => by cases hu) (Nat.le_refl _) (fun j hj => absurd hj (by simp)) (fun j hj => absurd hj (by simp))
      exact hr
  · obtain ⟨g1, off, rfl, hc⟩ := hS (by omega)
    obtain ⟨v', w', hrun, hown, hg⟩ := run_append_arg_grows (P := Tryz.prog) W 22 22 5 i0 (.int .u8 0) 1 1 Tryz.underlying22 hi hz0 hz1 hz2 rfl (by decide) ⟨g, 0, none⟩ 0 0 [] rfl (fun j u hj => by simp at hj) ⟨g1, off, none⟩ d.length c (d.map byteV) (by simp) (news_bys (ad := ⟨g1, off, none⟩) hS) (by omega) (by unfold maxLen; omega) (by omega)
    have ho : OwnR w' W.heap.size v' d := by unfold OwnR; simpa using hown
    exact ⟨v', w', hrun, ho.ownB.mono (by omega), (Below.refl W.heap.size W).grown hg (Nat.le_refl _) (fun k hk => by cases hk)⟩
def PRK (B0 nb c n : Nat) (at0 an : Int) (A A5 A6 : Option Addr) (c5 c6 n6 : Nat) (x y : Bs) : Nat → Value → World → Prop
  | 0, v, w => ∃ g : Nat, v = .slice (some ⟨g, 0, none⟩) 0 0 ∧ B0 ≤ g ∧ g < w.heap.size
  | 1, v, _ => v = .slice A nb c
  | 2, v, _ => v = .int .i64 at0
  | 3, v, _ => v = .int .i64 at0
  | 4, v, _ => v = .int .i64 n
  | 5, v, _ => v = .int .i64 an
  | 6, v, _ => v = .slice A5 n c5
  | 7, v, w => OwnB w B0 v x
  | 8, v, w => ∃ g : Nat, v = .slice (some ⟨g, 0, none⟩) 0 0 ∧ B0 ≤ g ∧ g < w.heap.size
  | 9, v, _ => v = .slice A nb c
  | 10, v, _ => v = .int .i64 at0
  | 11, v, _ => v = .int .i64 n
  | 12, v, _ => v = .int .i64 an
  | 13, v, _ => v = .slice A6 n6 c6
  | 14, v, w => OwnB w B0 v y
  | _, _, _ => True
theorem PRK_on {B0 nb c n : Nat} {at0 an : Int} {A A5 A6 : Option Addr} {c5 c6 n6 : Nat} {x y : Bs} (i : Nat) (v : Value) (w w' : World) (h : PRK B0 nb c n at0 an A A5 A6 c5 c6 n6 x y i v w) (hB : Below w.heap.size w w') : PRK B0 nb c n at0 an A A5 A6 c5 c6 n6 x y i v w' := by
  match i, h with
  | 0, h => obtain ⟨g, h1, h2, h3⟩ := h; exact ⟨g, h1, h2, Nat.lt_of_lt_of_le h3 hB.size⟩
  | 1, h => exact h
  | 2, h => exact h
  | 3, h => exact h
  | 4, h => exact h
  | 5, h => exact h
  | 6, h => exact h
  | 7, h => exact OwnB.below h hB (Nat.le_refl _)
  | 8, h => obtain ⟨g, h1, h2, h3⟩ := h; exact ⟨g, h1, h2, Nat.lt_of_lt_of_le h3 hB.size⟩
  | 9, h => exact h
  | 10, h => exact h
  | 11, h => exact h
  | 12, h => exact h
  | 13, h => exact h
  | 14, h => exact OwnB.below h hB (Nat.le_refl _)
  | _ + 15, _ => trivial
theorem pre_eq {p l : Bs} (h : p.length ≤ l.length) : (l.take p.length == p) = p.isPrefixOf l := pre_take p l h
set_option maxHeartbeats 4000000 in
set_option maxRecDepth 100000 in
theorem dParse_bad (A : Option Addr) (b : Bs) (c : Nat) (w : World) (hb : Sl w A c b) (hl : b.length ≤ 140737488351232) (h : headR false 0 false <+: b) : Calls Tryz.prog 7 #[.slice A b.length c] w (ParseP w (parseR b)) := by
  rw [parse_bad h]
  have z1 := bs_size b
  have cv := string_bys A b c w hb.bys
  have h66 : 66 ≤ b.length := by have := h.length_le; rw [bad66] at this; exact this
  have s19 : ∀ w : World, (Instr.slice 9 (.string (bs b)) none (some (.int .i64 66)) none).run Tryz.prog w = .ok (.string (bs (b.take 66))) w := fun w => by
    rw [run_slice_string_h w 9 _ Tryz.underlying9 _ _ (by omega) (by rw [z1]; omega), bs_extract]
    rfl
  have hE : (b.take 66 == [72, 84, 84, 80, 47, 49, 46, 49, 32, 52, 48, 48, 32, 66, 97, 100, 32, 82, 101, 113, 117, 101, 115, 116, 13, 10, 67, 111, 110, 116, 101, 110, 116, 45, 76, 101, 110, 103, 116, 104, 58, 32, 48, 13, 10, 67, 111, 110, 110, 101, 99, 116, 105, 111, 110, 58, 32, 99, 108, 111, 115, 101, 13, 10, 13, 10]) = true := by
    have := pre_take (headR false 0 false) b (by rw [bad66]; exact h66)
    rw [bad66, pre_iff.2 h, badL_eq] at this
    exact this
  obtain ⟨A4, slx, s4, -⟩ := hb.rest 66 (66 : Int) h66 rfl
  have hge : (b.length : Int) ≥ 66 := by omega
  obtain ⟨t, ht⟩ : ∃ t, t = b.take 66 := ⟨_, rfl⟩
  rw [← ht] at s19 hE
  obtain ⟨n4, hn4⟩ : ∃ n, n = (b.drop 66).length := ⟨_, rfl⟩
  rw [← hn4] at slx
  have HN4 := Lib.hid hn4
  have hl4 : (b.drop 66).length ≤ 140737488351232 := by rw [List.length_drop]; omega
  have CX := Lib.hid (fun (W : World) (h : Below w.heap.size w W) (g : Nat) (h1 : w.heap.size ≤ g) (h2 : g < W.heap.size) => run_ontoB (A := A4) (m := n4) (c := c - 66) hn4 (s4.bys.on h) s4.nil hl4 h1 h2)
  have HF : Hid (∀ v w', OwnB w' w.heap.size v (b.drop 66) → Below w.heap.size w w' → ParseP w (some (false, [], b.drop 66), 0) (.returned (.tuple #[.int .i64 400, .slice none 0 0, v, .int .i64 0])) w') := Lib.hid (fun v w' o k => ⟨k, .inr ⟨false, [], b.drop 66, _, v, rfl, rfl, .inl ⟨rfl, rfl⟩, o⟩⟩)
  generalize ParseP w (some (false, [], b.drop 66), 0) = Q at *
  generalize b.drop 66 = y at *
  clear hb hl h ht s4 hn4 hl4 h66
  go_enter Tryz.func7, Tryz.ntmps7
  go_wp2_with (first
    | (at_builtin; obtain ⟨v9, w9, hrun, ho9, hb9⟩ := CX.out _ (Below.alloc (Below.refl w.heap.size w) (Nat.le_refl _) (.cells #[] 5)) w.heap.size (Nat.le_refl _) (by simp); refine wpList_plain rfl fun K hK => ?_; refine wp_app2 rfl (.tmp 22) (.tmp 24) _ rfl _ _ rfl rfl hrun (hK _ _ ?_); clear hK K)
    | fail)
  have HFF := Lib.hid (HF.out _ _ ho9 (Below.trans (Below.alloc (Below.refl w.heap.size w) (Nat.le_refl _) _) (hb9.mono (by simp))))
  clear hb9 ho9 hrun
  go_wp2_with fail
  go_returns
  exact HFF.out
theorem bad_cond {b : Bs} (h : ¬ headR false 0 false <+: b) : (b.length < 66 ∧ ¬ (b.length : Int) ≥ 66) ∨ (66 ≤ b.length ∧ (b.length : Int) ≥ 66 ∧ ∃ t : Bs, (∀ w : World, (Instr.slice 9 (.string (bs b)) none (some (.int .i64 66)) none).run Tryz.prog w = .ok (.string (bs t)) w) ∧ (t == [72, 84, 84, 80, 47, 49, 46, 49, 32, 52, 48, 48, 32, 66, 97, 100, 32, 82, 101, 113, 117, 101, 115, 116, 13, 10, 67, 111, 110, 116, 101, 110, 116, 45, 76, 101, 110, 103, 116, 104, 58, 32, 48, 13, 10, 67, 111, 110, 110, 101, 99, 116, 105, 111, 110, 58, 32, 99, 108, 111, 115, 101, 13, 10, 13, 10]) = false) := by
  have z1 := bs_size b
  by_cases h66 : 66 ≤ b.length
  · refine .inr ⟨h66, by omega, b.take 66, fun w => ?_, ?_⟩
    · rw [run_slice_string_h w 9 _ Tryz.underlying9 _ _ (by omega) (by rw [z1]; omega), bs_extract]
      rfl
    · have := pre_take (headR false 0 false) b (by rw [bad66]; exact h66)
      rw [bad66, badL_eq] at this
      rw [this, ← badL_eq, ← Bool.not_eq_true]
      exact fun e => h (pre_iff.1 e)
  · exact .inl ⟨by omega, by omega⟩
def noneE (f : Nat) : Ending := .returned (.tuple #[.int .i64 0, .slice none 0 0, .slice none 0 0, .int .i64 f])
theorem parseP_none {w w' : World} {f : Nat} (k : Below w.heap.size w w') : ParseP w (none, f) (noneE f) w' := ⟨k, .inl ⟨rfl, rfl⟩⟩
theorem beg_no {b p : Bs} (h1 : ¬ b <+: p) (h2 : ¬ p <+: b) : begB b p = false := by
  unfold begB
  rw [Bool.or_eq_false_iff, ← Bool.not_eq_true, ← Bool.not_eq_true, pre_iff, pre_iff]
  exact ⟨h1, h2⟩
theorem beg_yes {b p : Bs} (h : b <+: p ∨ p <+: b) : begB b p = true := by
  unfold begB
  rw [Bool.or_eq_true, pre_iff, pre_iff]
  exact h
set_option maxHeartbeats 4000000 in
set_option maxRecDepth 100000 in
theorem dParse_far (A : Option Addr) (b : Bs) (c : Nat) (w : World) (hb : Sl w A c b) (h1 : ¬ sTold <+: b) (h2 : ¬ b <+: sTold) (h3 : ¬ headR false 0 false <+: b) : Calls Tryz.prog 7 #[.slice A b.length c] w (ParseP w (parseR b)) := by
  rw [parse_far h1 h2 h3]
  have z1 := bs_size b
  have cv := string_bys A b c w hb.bys
  have hbm : b.length ≤ 9223372036854775807 := Nat.le_trans hb.le hb.max
  have BG := begins_any b sTold w hbm (by decide)
  rw [beg_no h2 h1] at BG
  have BG := Lib.hid BG
  have B2 := Lib.hid (fun W => begins_any b [72, 84, 84, 80, 47, 49, 46, 49, 32, 52, 48, 48, 32, 66, 97, 100, 32, 82, 101, 113, 117, 101, 115, 116, 13, 10, 67, 111, 110, 116, 101, 110, 116, 45, 76, 101, 110, 103, 116, 104, 58, 32, 48, 13, 10, 67, 111, 110, 110, 101, 99, 116, 105, 111, 110, 58, 32, 99, 108, 111, 115, 101, 13, 10, 13, 10] W hbm (by decide))
  have HQ : Hid (∀ w', Below w.heap.size w w' → ∀ f, f = (if b <+: headR false 0 false then 20 else 130) → ParseP w (none, (if b <+: headR false 0 false then 20 else 130)) (noneE f) w') := Lib.hid (fun w' k f hf => by rw [hf]; exact parseP_none k)
  rcases bad_cond h3 with ⟨hlt, hge⟩ | ⟨hlt, hge, t, s19, hE⟩
  · by_cases hp : b <+: headR false 0 false
    · have e2 : begB b [72, 84, 84, 80, 47, 49, 46, 49, 32, 52, 48, 48, 32, 66, 97, 100, 32, 82, 101, 113, 117, 101, 115, 116, 13, 10, 67, 111, 110, 116, 101, 110, 116, 45, 76, 101, 110, 103, 116, 104, 58, 32, 48, 13, 10, 67, 111, 110, 110, 101, 99, 116, 105, 111, 110, 58, 32, 99, 108, 111, 115, 101, 13, 10, 13, 10] = true := by rw [← badL_eq]; exact beg_yes (.inl hp)
      rw [e2] at B2
      have HQ2 := Lib.hid (fun w' k => HQ.out w' k 20 (by rw [if_pos hp]))
      have hlt' : (b.length : Int) < 66 := by omega
      generalize ParseP w (none, (if b <+: headR false 0 false then 20 else 130)) = Q at *
      clear hb h1 h2 h3 HQ hp e2
      go_enter Tryz.func7, Tryz.ntmps7
      go_wp2_with fail
      refine BG.out.mono ?_
      rintro e w1 ⟨rfl, k1⟩
      have K1 := Lib.hid k1
      clear k1 BG
      go_wp2_with fail
      refine (B2.out _).mono ?_
      rintro e w2 ⟨rfl, k2⟩
      have HF := Lib.hid (HQ2.out w2 (K1.out.trans (k2.mono K1.out.size)))
      clear k2 B2
      go_wp2_with fail
      go_returns
      exact HF.out
    · have e2 : begB b [72, 84, 84, 80, 47, 49, 46, 49, 32, 52, 48, 48, 32, 66, 97, 100, 32, 82, 101, 113, 117, 101, 115, 116, 13, 10, 67, 111, 110, 116, 101, 110, 116, 45, 76, 101, 110, 103, 116, 104, 58, 32, 48, 13, 10, 67, 111, 110, 110, 101, 99, 116, 105, 111, 110, 58, 32, 99, 108, 111, 115, 101, 13, 10, 13, 10] = false := by rw [← badL_eq]; exact beg_no hp h3
      rw [e2] at B2
      have HQ2 := Lib.hid (fun w' k => HQ.out w' k 130 (by rw [if_neg hp]))
      have hlt' : (b.length : Int) < 66 := by omega
      generalize ParseP w (none, (if b <+: headR false 0 false then 20 else 130)) = Q at *
      clear hb h1 h2 h3 HQ hp e2
      go_enter Tryz.func7, Tryz.ntmps7
      go_wp2_with fail
      refine BG.out.mono ?_
      rintro e w1 ⟨rfl, k1⟩
      have K1 := Lib.hid k1
      clear k1 BG
      go_wp2_with fail
      refine (B2.out _).mono ?_
      rintro e w2 ⟨rfl, k2⟩
      have HF := Lib.hid (HQ2.out w2 (K1.out.trans (k2.mono K1.out.size)))
      clear k2 B2
      go_wp2_with fail
      go_returns
      exact HF.out
  · have hp : ¬ b <+: headR false 0 false := fun e => by
      have := len_lt h3 e
      rw [bad66] at this
      omega
    have HQ2 := Lib.hid (fun w' k => HQ.out w' k 130 (by rw [if_neg hp]))
    have hlt' : ¬ (b.length : Int) < 66 := by omega
    generalize ParseP w (none, (if b <+: headR false 0 false then 20 else 130)) = Q at *
    clear hb h1 h2 h3 HQ hp B2
    go_enter Tryz.func7, Tryz.ntmps7
    go_wp2_with fail
    refine BG.out.mono ?_
    rintro e w1 ⟨rfl, k1⟩
    have HF := Lib.hid (HQ2.out w1 k1)
    clear k1 BG
    go_wp2_with fail
    go_returns
    exact HF.out
theorem str_mid (b : Bs) (k m : Nat) (hk : k + m ≤ b.length) (i j : Int) (hi : i = k) (hj : j = (k + m : Nat)) (w : World) : (Instr.slice 9 (.string (bs b)) (some (.int .i64 i)) (some (.int .i64 j)) none).run Tryz.prog w = .ok (.string (bs ((b.drop k).take m))) w := by
  subst hi
  subst hj
  rw [run_slice_string w 9 _ _ _ _ _ Tryz.underlying9 (by omega) (by omega) (by rw [bs_size]; omega), bs_extract, Int.toNat_natCast, Int.toNat_natCast, show k + m - k = m by omega]
/-- The answer to bytes that end within a length's digits. -/
theorem short_near (b : Bs) (at0 : Int) (w : World) (h : b.length ≤ 72) : Calls Tryz.prog 20 #[.string (bs b), .int .i64 at0] w fun e w' => e = noneE 20 ∧ w' = w := by
  have z1 := bs_size b
  have hle : (b.length : Int) ≤ 72 := by omega
  go_enter Tryz.func20, Tryz.ntmps20
  go_wp2_with fail
  go_returns
  exact ⟨rfl, rfl⟩
set_option maxHeartbeats 1000000 in
theorem short_far (b : Bs) (m : Nat) (a0 : Int) (w : World) (ha : a0 = (72 + m : Nat)) (h0 : 72 < b.length) (hbm : b.length ≤ 9223372036854775807) (hm : 72 + m ≤ b.length) (f : Nat) (h1 : lenD ((b.drop 72).take m) → f = 20) (h2 : ¬ lenD ((b.drop 72).take m) → f = 130) : Calls Tryz.prog 20 #[.string (bs b), .int .i64 a0] w fun e w' => e = noneE f ∧ Below w.heap.size w w' := by
  have z1 := bs_size b
  have hle : ¬ (b.length : Int) ≤ 72 := by omega
  have sm := fun w => str_mid b 72 m hm 72 a0 rfl ha w
  have ha0 : 72 ≤ a0 := by omega
  have ha1 : a0 ≤ (b.length : Int) := by omega
  clear ha
  have hdl : ((b.drop 72).take m).length ≤ 9223372036854775807 := by rw [List.length_take, List.length_drop]; omega
  generalize (b.drop 72).take m = d at *
  have NU := Lib.hid (fun W => number_any d W hdl)
  rcases num_len d with ⟨hz, hn⟩ | ⟨n, hz, hn, ⟨hne, hno⟩ | he⟩
  · obtain rfl := h2 hn
    rw [hz] at NU
    clear h1 h2 hn hdl
    go_enter Tryz.func20, Tryz.ntmps20
    go_wp2_with fail
    refine (NU.out _).mono ?_
    rintro e w1 ⟨rfl, rfl⟩
    go_wp2_with fail
    go_returns
    exact ⟨rfl, Below.refl _ _⟩
  · obtain rfl := h2 hno
    rw [hz] at NU
    have DE := Lib.hid (decR_any n hn)
    have hneg : ¬ (n : Int) < 0 := by omega
    have hne' : (decD n == d) = false := beq_eq_false_iff_ne.2 hne
    generalize decD n = dn at *
    clear h1 h2 hno hdl hne
    go_enter Tryz.func20, Tryz.ntmps20
    go_wp2_with fail
    refine (NU.out _).mono ?_
    rintro e w1 ⟨rfl, rfl⟩
    go_wp2_with fail
    refine (DE.out _).mono ?_
    rintro e w2 ⟨rfl, k2⟩
    have K2 := Lib.hid k2
    clear k2 DE
    go_wp2_with fail
    go_returns
    exact ⟨rfl, K2.out⟩
  · obtain rfl := h1 ⟨n, hn, he⟩
    rw [hz] at NU
    have DE := Lib.hid (decR_any n hn)
    rw [← he] at DE
    have hneg : ¬ (n : Int) < 0 := by omega
    clear h1 h2 hdl he
    go_enter Tryz.func20, Tryz.ntmps20
    go_wp2_with fail
    refine (NU.out _).mono ?_
    rintro e w1 ⟨rfl, rfl⟩
    go_wp2_with fail
    refine (DE.out _).mono ?_
    rintro e w2 ⟨rfl, k2⟩
    have K2 := Lib.hid k2
    clear k2 DE
    go_wp2_with fail
    go_returns
    exact ⟨rfl, K2.out⟩
end Go.Proofs.YtjhmjokmjoldkaaGreatDoor
namespace Go.Proofs.YtjhmjokmjoldkaaGreatDoor
open Go.RowKit
set_option linter.unusedVariables false
set_option maxRecDepth 100000

theorem str_idx (s : Bs) (n : Nat) (h : n < s.length) (i : Int) (hi : i = n) (wx : World) : (Instr.index 9 (.string (bs s)) (.int .i64 i)).run Tryz.prog wx = .ok (.int .u8 (s[n]).toNat) wx := by
  subst hi
  rw [run_index_string _ _ _ _ _ Tryz.underlying9, dif_pos (by rw [bs_size]; omega)]
  rfl
theorem str_rest (s : Bs) (a : Nat) (ha : a ≤ s.length) (i : Int) (hi : i = a) (wx : World) : (Instr.slice 9 (.string (bs s)) (some (.int .i64 i)) none none).run Tryz.prog wx = .ok (.string (bs (s.drop a))) wx := by
  subst hi
  rw [run_slice_string_l wx 9 _ Tryz.underlying9 _ _ (by omega) (by rw [bs_size]; omega), bs_extract, Int.toNat_natCast, List.take_of_length_le]
  rw [bs_size, List.length_drop]; omega
theorem dig_in {b : Bs} {k : Nat} (hk : k < (digsD (b.drop 72)).length) : ∃ h : 72 + k < b.length, 48 ≤ (b[72 + k]).toNat ∧ (b[72 + k]).toNat ≤ 57 ∧ k < 6 := by
  have h1 := (digsD_pre (b.drop 72)).length_le
  rw [List.length_drop] at h1
  have h2 := digsD_len (b.drop 72)
  have hb : 72 + k < b.length := by omega
  have e : (digsD (b.drop 72))[k] = b[72 + k] := by
    obtain ⟨r, hr⟩ := digsD_pre (b.drop 72)
    have e1 : (b.drop 72)[k]'(by rw [List.length_drop]; omega) = b[72 + k] := List.getElem_drop
    rw [← e1]
    have : (digsD (b.drop 72) ++ r)[k]'(by rw [List.length_append]; omega) = (digsD (b.drop 72))[k] := List.getElem_append_left hk
    rw [← this]
    congr 1
  have h3 := digH_at (digsD_all (b.drop 72)) k hk
  rw [e] at h3
  exact ⟨hb, h3.1, h3.2, by omega⟩
theorem dig_end (b : Bs) : b.length ≤ 72 + (digsD (b.drop 72)).length ∨ ((digsD (b.drop 72)).length = 6 ∧ 72 + (digsD (b.drop 72)).length < b.length) ∨ ((digsD (b.drop 72)).length ≤ 5 ∧ ∃ h : 72 + (digsD (b.drop 72)).length < b.length, (b[72 + (digsD (b.drop 72)).length]).toNat < 48 ∨ 57 < (b[72 + (digsD (b.drop 72)).length]).toNat) := by
  by_cases h : b.length ≤ 72 + (digsD (b.drop 72)).length
  · exact .inl h
  have h2 := digsD_len (b.drop 72)
  by_cases h6 : (digsD (b.drop 72)).length = 6
  · exact .inr (.inl ⟨h6, by omega⟩)
  have h5 : (digsD (b.drop 72)).length ≤ 5 := by omega
  refine .inr (.inr ⟨h5, by omega, ?_⟩)
  obtain ⟨r, hr, hst⟩ := digsD_rest h5
  cases r with
  | nil =>
    have := congrArg List.length hr
    rw [List.append_nil, List.length_drop] at this
    omega
  | cons c t =>
    have hc := hst c t rfl
    have e1 : (b.drop 72)[(digsD (b.drop 72)).length]'(by rw [List.length_drop]; omega) = b[72 + (digsD (b.drop 72)).length]'(by omega) := List.getElem_drop
    have e2 : (b.drop 72)[(digsD (b.drop 72)).length]? = some c := by
      conv => lhs; arg 1; rw [hr]
      simp
    have e3 : (b.drop 72)[(digsD (b.drop 72)).length]'(by rw [List.length_drop]; omega) = c := by
      rw [List.getElem?_eq_getElem (by rw [List.length_drop]; omega)] at e2
      exact Option.some.inj e2
    rw [← e1, e3]
    unfold digH at hc
    rw [decide_eq_false_iff_not] at hc
    omega
theorem told_parts {b : Bs} (h : b <+: sTold ∨ sTold <+: b) (h72 : 72 < b.length) : b = sTold ++ b.drop 72 := by
  have e72 : sTold.length = 72 := by decide
  rcases h with h | h
  · have := h.length_le; omega
  · obtain ⟨r, rfl⟩ := h
    rw [← e72, List.drop_left']
    rfl
theorem far_none {b : Bs} (h : b <+: sTold ∨ sTold <+: b) (h72 : 72 < b.length) (hd : ¬ lenD (digsD (b.drop 72))) : parseR b = (none, 130) := by
  have e := told_parts h h72
  rw [e]
  exact parse_none (fun e => by have := congrArg List.length e; rw [List.length_drop] at this; simp at this; omega) hd
theorem far_short {b : Bs} (h : b <+: sTold ∨ sTold <+: b) (h72 : 72 < b.length) (he : b.length ≤ 72 + (digsD (b.drop 72)).length) : ∃ f : Nat, (lenD ((b.drop 72).take (digsD (b.drop 72)).length) → f = 20) ∧ (¬ lenD ((b.drop 72).take (digsD (b.drop 72)).length) → f = 130) ∧ parseR b = (none, f) := by
  rw [← List.prefix_iff_eq_take.1 (digsD_pre (b.drop 72))]
  by_cases hd : lenD (digsD (b.drop 72))
  · refine ⟨20, fun _ => rfl, fun h => absurd hd h, ?_⟩
    obtain ⟨n, hn, e⟩ := hd
    have e2 : digsD (b.drop 72) = b.drop 72 := (digsD_pre (b.drop 72)).eq_of_length_le (by rw [List.length_drop]; omega)
    have e3 := told_parts h h72
    rw [e3, ← e2, e, ← List.append_nil (decD n), parse_len hn [] (fun c t h => by cases h)]
    exact rest_1s (by decide) (List.nil_prefix)
  · exact ⟨130, fun h => absurd h hd, fun _ => rfl, far_none h h72 hd⟩
def Xk (k : Nat) : Bs := if k = 0 then R1 else R2
theorem Xk_len (k : Nat) : (Xk k).length ≤ 23 := by
  unfold Xk
  split <;> decide
def hisR (k : Nat) (r : Bs) : Prop := (1 ≤ k → ¬ R1 <+: r ∧ ¬ r <+: R1) ∧ (2 ≤ k → ¬ R2 <+: r ∧ ¬ r <+: R2)
theorem hisR.next {k : Nat} {r : Bs} (hk : k < 2) (h : hisR k r) (h1 : ¬ Xk k <+: r) (h2 : ¬ r <+: Xk k) : hisR (k + 1) r := by
  match k, hk with
  | 0, _ => exact ⟨fun _ => ⟨h1, h2⟩, fun e => by omega⟩
  | 1, _ => exact ⟨fun _ => h.1 (by omega), fun _ => ⟨h1, h2⟩⟩
theorem rk_hit {k n : Nat} {r : Bs} (hk : k < 2) (h : hisR k r) (h1 : Xk k <+: r) (hn : n ≤ (r.drop (Xk k).length).length) : restP r R1 R2 n = (some (true, (r.drop (Xk k).length).take n, (r.drop (Xk k).length).drop n), 0) := by
  match k, hk with
  | 0, _ => exact rest_1 h1 hn
  | 1, _ => exact rest_2 (h.1 (by omega)).1 (h.1 (by omega)).2 h1 hn
theorem rk_few {k n : Nat} {r : Bs} (hk : k < 2) (h : hisR k r) (h1 : Xk k <+: r) (hn : ¬ n ≤ (r.drop (Xk k).length).length) : restP r R1 R2 n = (none, 20) := by
  match k, hk with
  | 0, _ => exact rest_1' h1 hn
  | 1, _ => exact rest_2' (h.1 (by omega)).1 (h.1 (by omega)).2 h1 hn
theorem rk_short {k n : Nat} {r : Bs} (hk : k < 2) (h : hisR k r) (h1 : ¬ Xk k <+: r) (h2 : r <+: Xk k) : restP r R1 R2 n = (none, 20) := by
  match k, hk with
  | 0, _ => exact rest_1s h1 h2
  | 1, _ => exact rest_2s (h.1 (by omega)).1 (h.1 (by omega)).2 h1 h2
theorem rk_end {n : Nat} {r : Bs} (h : hisR 2 r) : restP r R1 R2 n = (none, 130) := rest_3 (h.1 (by omega)).1 (h.1 (by omega)).2 (h.2 (by omega)).1 (h.2 (by omega)).2
set_option maxHeartbeats 1000000 in
set_option maxRecDepth 100000 in
theorem dParse_near (A : Option Addr) (b : Bs) (c : Nat) (w : World) (hb : Sl w A c b) (h : b <+: sTold) (h66 : b.length < 66) : Calls Tryz.prog 7 #[.slice A b.length c] w (ParseP w (parseR b)) := by
  rw [parse_near h]
  have z1 := bs_size b
  have cv := string_bys A b c w hb.bys
  have BG := begins_any b sTold w (by omega) (by decide)
  rw [beg_yes (.inl h)] at BG
  have BG := Lib.hid BG
  have SH := Lib.hid (fun W => short_near b 72 W (by omega))
  have HQ : Hid (∀ w', Below w.heap.size w w' → ParseP w (none, 20) (noneE 20) w') := Lib.hid (fun w' k => parseP_none k)
  generalize ParseP w (none, 20) = Q at *
  unfold noneE at SH HQ
  have hge : ¬ (b.length : Int) ≥ 66 := by omega
  have g1 : ¬ (72 : Int) < (b.length : Int) := by omega
  have g2 : (b.length : Int) ≤ 72 := by omega
  clear hb h
  go_enter Tryz.func7, Tryz.ntmps7
  go_wp2_with fail
  refine BG.out.mono ?_
  rintro e w1 ⟨rfl, k1⟩
  have HF := Lib.hid (HQ.out w1 k1)
  clear k1 BG
  go_wp2_with fail
  refine wp_loop_rounds 1 ?_
  rw [rounds_succ]
  go_wp2_with fail
  refine (SH.out _).mono ?_
  rintro e w2 ⟨rfl, rfl⟩
  go_wp2_with fail
  go_returns
  exact HF.out
set_option maxHeartbeats 4000000 in
set_option maxRecDepth 100000 in
theorem dParse_told (A : Option Addr) (b : Bs) (c : Nat) (w : World) (hb : Sl w A c b) (hl : b.length ≤ 140737488351232) (h : b <+: sTold ∨ sTold <+: b) (h3 : ¬ headR false 0 false <+: b) (h66 : 66 ≤ b.length) : Calls Tryz.prog 7 #[.slice A b.length c] w (ParseP w (parseR b)) := by
  have z1 := bs_size b
  have cv := string_bys A b c w hb.bys
  have hbm : b.length ≤ 9223372036854775807 := Nat.le_trans hb.le hb.max
  have BG := begins_any b sTold w hbm (by decide)
  rw [beg_yes h] at BG
  have BG := Lib.hid BG
  have HQ : Hid (∀ w' f, Below w.heap.size w w' → parseR b = (none, f) → ParseP w (parseR b) (noneE f) w') := Lib.hid (fun w' f k e => by rw [e]; exact parseP_none k)
  have HQ2 : Hid (∀ w' x y v1 v2, Below w.heap.size w w' → parseR b = (some (true, x, y), 0) → OwnB w' w.heap.size v1 x → OwnB w' w.heap.size v2 y → ParseP w (parseR b) (.returned (.tuple #[.int .i64 200, v1, v2, .int .i64 0])) w') := Lib.hid (fun w' x y v1 v2 k e o1 o2 => by rw [e]; exact ⟨k, .inr ⟨true, x, y, v1, v2, rfl, rfl, o1, o2⟩⟩)
  have HPR := Lib.hid (fun (f : Option (Bool × Bs × Bs) × Nat) (e : parseR b = f) => e)
  generalize ParseP w (parseR b) = Q at *
  have HB := Lib.hid hb
  have HL := Lib.hid hl
  have HH := Lib.hid h
  have DI := Lib.hid (fun k hk => dig_in (b := b) (k := k) hk)
  have DE := Lib.hid (dig_end b)
  have DL := digsD_len (b.drop 72)
  have DP := (digsD_pre (b.drop 72)).length_le
  rw [List.length_drop] at DP
  obtain ⟨m, hm⟩ : ∃ m, m = (digsD (b.drop 72)).length := ⟨_, rfl⟩
  rw [← hm] at DI DE DL DP
  have HM := Lib.hid hm
  clear hb hl h hm
  rcases bad_cond h3 with ⟨hlt, hge⟩ | ⟨hlt, hge, t, s19, hE⟩
  · omega
  · clear h3 h66
    go_enter Tryz.func7, Tryz.ntmps7
    go_wp2_with fail
    refine BG.out.mono ?_
    rintro e w1 ⟨rfl, k1⟩
    have K1 := Lib.hid k1
    clear k1 BG
    go_upto_block 0 with fail
    go_cut [7] (fun s7 wx => s7 = .int .i64 (72 + (m : Int)) ∧ wx = w1)
    case first =>
      go_wp2_with fail
      go_loopw [7] (fun v7 wr => ∃ (k : Nat), v7 = .int .i64 (72 + (k : Int)) ∧ k ≤ m ∧ wr = w1) (fun v7 _ => 100 - (intOf v7).toNat)
      case atStart => exact ⟨0, rfl, Nat.zero_le _, rfl⟩
      case round =>
        obtain ⟨k, rfl, hk, rfl⟩ := hrel
        by_cases hkm : k < m
        · obtain ⟨hb2, d1, d2, d3⟩ := DI.out k hkm
          have g1 : 72 + (k : Int) < (b.length : Int) := by omega
          have g2 : 72 + (k : Int) < 78 := by omega
          obtain ⟨x, hx⟩ : ∃ x, x = (b[72 + k]).toNat := ⟨_, rfl⟩
          have hb0 : ((bs b)[72 + k]'(by rw [bs_size]; exact hb2)).toNat = x := hx.symm
          rw [← hx] at d1 d2
          have g3 : (48 : Int) ≤ (x : Int) := by omega
          have g4 : (x : Int) ≤ 57 := by omega
          clear hx
          first
            | (exfalso; omega; done)
            | (go_wp2_with fail
               go_roundw
               case rel => exact ⟨k + 1, by go_num, by omega, by first | rfl | trivial⟩
               case measure => simp [intOf]; omega)
        · obtain rfl : k = m := by omega
          rcases DE.out with hE1 | ⟨hE2, hE4⟩ | ⟨hE3, hb2, hx0⟩
          · have g1 : ¬ 72 + (k : Int) < (b.length : Int) := by omega
            go_wp2_with fail
            go_meet
            exact ⟨rfl, rfl⟩
          · have g1 : 72 + (k : Int) < (b.length : Int) := by omega
            have g2 : ¬ 72 + (k : Int) < 78 := by omega
            have hk5 : ¬ b.length < 72 + k := by omega
            clear hE2
            first
              | (exfalso; omega; done)
              | (go_wp2_with fail
                 go_meet
                 exact ⟨rfl, rfl⟩)
          · have g1 : 72 + (k : Int) < (b.length : Int) := by omega
            have g2 : 72 + (k : Int) < 78 := by omega
            obtain ⟨x, hx⟩ : ∃ x, x = (b[72 + k]).toNat := ⟨_, rfl⟩
            have hb0 : ((bs b)[72 + k]'(by rw [bs_size]; exact hb2)).toNat = x := hx.symm
            rw [← hx] at hx0
            clear hx
            first
              | (exfalso; omega; done)
              | (rcases hx0 with hx0 | hx0
                 · have g3 : ¬ (48 : Int) ≤ (x : Int) := by omega
                   go_wp2_with fail
                   go_meet
                   exact ⟨rfl, rfl⟩
                 · have g3 : (48 : Int) ≤ (x : Int) := by omega
                   have g4 : ¬ (x : Int) ≤ 57 := by omega
                   go_wp2_with fail
                   go_meet
                   exact ⟨rfl, rfl⟩)
    case rest =>
      obtain ⟨rfl, rfl⟩ := hcut
      clear DI DE
      by_cases hE1 : b.length ≤ 72 + m
      · have g1 : (b.length : Int) ≤ 72 + (m : Int) := by omega
        by_cases h72 : b.length ≤ 72
        · have hbs : b <+: sTold := by
            rcases HH.out with h | h
            · exact h
            · have := h.eq_of_length_le (by rw [show sTold.length = 72 from by decide]; exact h72)
              rw [this]
              exact List.prefix_refl _
          have HF := Lib.hid (HQ.out _ 20 K1.out (parse_near hbs))
          have SH := Lib.hid (short_near b (72 + (m : Int)) wc h72)
          unfold noneE at HF SH
          go_wp2_with fail
          refine SH.out.mono ?_
          rintro e w2 ⟨rfl, rfl⟩
          go_wp2_with fail
          go_returns
          exact HF.out
        · have hb72 : 72 < b.length := by omega
          obtain ⟨f, hf1, hf2, hpf⟩ := far_short HH.out hb72 (by rw [← HM.out]; exact hE1)
          have SH := short_far b m (72 + (m : Int)) wc (by omega) hb72 hbm (by omega) f (by rw [HM.out]; exact hf1) (by rw [HM.out]; exact hf2)
          have SH := Lib.hid SH
          have HF0 := Lib.hid (fun w' k => HQ.out w' f k hpf)
          unfold noneE at HF0 SH
          go_wp2_with fail
          refine SH.out.mono ?_
          rintro e w2 ⟨rfl, k2⟩
          have HF := Lib.hid (HF0.out w2 (K1.out.trans (k2.mono K1.out.size)))
          clear k2 SH
          go_wp2_with fail
          go_returns
          exact HF.out
      · have g1 : ¬ (b.length : Int) ≤ 72 + (m : Int) := by omega
        have hb72 : 72 < b.length := by omega
        have htp := told_parts HH.out hb72
        have hqn : b.drop 72 ≠ [] := fun e => by have := congrArg List.length e; rw [List.length_drop] at this; simp at this; omega
        have sm := fun w => str_mid b 72 m (by omega) 72 (72 + (m : Int)) rfl (by omega) w
        have hdt : (b.drop 72).take m = digsD (b.drop 72) := by
          have := List.prefix_iff_eq_take.1 (digsD_pre (b.drop 72))
          rw [HM.out]
          exact this.symm
        rw [hdt] at sm
        have NU := Lib.hid (fun W => number_any (digsD (b.drop 72)) W (by have := digsD_len (b.drop 72); omega))
        rcases num_len (digsD (b.drop 72)) with ⟨hz, hn⟩ | ⟨n, hz, hn, ⟨hne, hno⟩ | he⟩
        · rw [hz] at NU
          have HF := Lib.hid (HQ.out _ 130 K1.out (far_none HH.out hb72 hn))
          unfold noneE at HF
          generalize digsD (b.drop 72) = d at *
          clear hqn hdt hn htp
          go_wp2_with fail
          refine (NU.out _).mono ?_
          rintro e w2 ⟨rfl, rfl⟩
          go_wp2_with fail
          go_returns
          exact HF.out
        · rw [hz] at NU
          have HF0 := Lib.hid (fun w' k => HQ.out w' 130 k (far_none HH.out hb72 hno))
          unfold noneE at HF0
          have DE := Lib.hid (decR_any n hn)
          have hneg : ¬ (n : Int) < 0 := by omega
          have hne' : (decD n == digsD (b.drop 72)) = false := beq_eq_false_iff_ne.2 hne
          generalize decD n = dn at *
          generalize digsD (b.drop 72) = d at *
          clear hqn hdt hno htp hne
          go_wp2_with fail
          refine (NU.out _).mono ?_
          rintro e w2 ⟨rfl, rfl⟩
          go_wp2_with fail
          refine (DE.out _).mono ?_
          rintro e w3 ⟨rfl, k3⟩
          have HF := Lib.hid (HF0.out w3 (K1.out.trans (k3.mono K1.out.size)))
          clear k3 DE
          go_wp2_with fail
          go_returns
          exact HF.out
        · rw [hz] at NU
          have DE := Lib.hid (decR_any n hn)
          rw [← he] at DE
          have hneg : ¬ (n : Int) < 0 := by omega
          have hd5 : (digsD (b.drop 72)).length ≤ 5 := by
            rw [he]
            have := decD_len 4 n (by omega)
            omega
          obtain ⟨r, hr, hst⟩ := digsD_rest hd5
          have hrd : b.drop (72 + m) = r := by
            rw [← List.drop_drop]
            conv => lhs; rw [hr]
            rw [HM.out, List.drop_left']
            rfl
          have e1 : b = sTold ++ (decD n ++ r) := by
            rw [← he, ← hr]
            exact htp
          have hpr := parse_len hn r hst
          rw [← e1] at hpr
          have hrl : r.length = b.length - (72 + m) := by rw [← hrd, List.length_drop]
          have RH := Lib.hid (fun k (hk : k < 2) (h : hisR k r) (h1 : Xk k <+: r) (hn : n ≤ (r.drop (Xk k).length).length) => hpr.trans (rk_hit hk h h1 hn))
          have RFF := Lib.hid (fun k (hk : k < 2) (h : hisR k r) (h1 : Xk k <+: r) (hn : ¬ n ≤ (r.drop (Xk k).length).length) => hpr.trans (rk_few hk h h1 hn))
          have RS := Lib.hid (fun k (hk : k < 2) (h : hisR k r) (h1 : ¬ Xk k <+: r) (h2 : r <+: Xk k) => hpr.trans (rk_short (n := n) hk h h1 h2))
          have RE := Lib.hid (fun (h : hisR 2 r) => hpr.trans (rk_end (n := n) h))
          have HRD := Lib.hid hrd
          have HRL := Lib.hid hrl
          generalize digsD (b.drop 72) = d at *
          clear hqn hdt htp hr hst e1 hpr hrd he hd5
          go_wp2_with fail
          refine (NU.out _).mono ?_
          rintro e w2 ⟨rfl, rfl⟩
          go_wp2_with fail
          refine (DE.out _).mono ?_
          rintro e w3 ⟨rfl, k3⟩
          obtain ⟨W4, hW4⟩ : ∃ W, W = w3.alloc (.cells #[.string ⟨#[13, 10, 13, 10]⟩, .string ⟨#[13, 10, 67, 111, 110, 110, 101, 99, 116, 105, 111, 110, 58, 32, 99, 108, 111, 115, 101, 13, 10, 13, 10]⟩] 9) := ⟨_, rfl⟩
          have b4 : Below w3.heap.size w3 W4 := by rw [hW4]; exact Below.alloc (Below.refl _ _) (Nat.le_refl _) _
          have r4 : W4.heap[w3.heap.size]? = some (.cells #[.string ⟨#[13, 10, 13, 10]⟩, .string ⟨#[13, 10, 67, 111, 110, 110, 101, 99, 116, 105, 111, 110, 58, 32, 99, 108, 111, 115, 101, 13, 10, 13, 10]⟩] 9 (0, 0)) := by rw [hW4]; exact row_new _ rfl
          have C := Lib.hid (fun k (hk : k < 2) (wr : World) (h : Below W4.heap.size W4 wr) => (show wr.cell? ⟨w3.heap.size, k, none⟩ = some (.string (bs (Xk k))) from by
            refine cell_on ((cell_of_row _ _ k _ _ _ r4).trans ?_) h
            match k, hk with
            | 0, _ => rfl
            | 1, _ => rfl))
          have k3' := K1.out.trans (k3.mono K1.out.size)
          have K4 := Lib.hid (k3'.trans (b4.mono k3'.size))
          have HW4 := Lib.hid hW4
          clear k3 k3' b4 r4 hW4 DE NU sm
          go_wp2_with fail
          rw [← HW4.out]
          clear HW4
          go_loopw [7, 84] (fun v7 v wr => ∃ k : Nat, v = .int .i64 k ∧ k ≤ 2 ∧ Hid (hisR k r) ∧ Hid (Below W4.heap.size W4 wr) ∧ v7 = .int .i64 (72 + (m : Int))) (fun _ v _ => 2 - (intOf v).toNat)
          case atStart => exact ⟨0, rfl, by omega, Lib.hid ⟨fun h => by omega, fun h => by omega⟩, Lib.hid (Below.refl _ _), rfl⟩
          case round =>
            obtain ⟨k, rfl, hk, hh, hB, rfl⟩ := hrel
            rename World => wr
            have KR := Lib.hid (K4.out.trans (hB.out.mono K4.out.size))
            by_cases hk2 : k < 2
            · have hk2' : (k : Int) < 2 := by omega
              have C1 := C.out k hk2 wr hB.out
              have XL := Xk_len k
              have RH1 := Lib.hid (RH.out k hk2 hh.out)
              have RS1 := Lib.hid (RS.out k hk2 hh.out)
              have RN1 := Lib.hid (hisR.next hk2 hh.out)
              have RF1 := Lib.hid (RFF.out k hk2 hh.out)
              generalize Xk k = X at *
              have zX := bs_size X
              have hrl := HRL.out
              by_cases hp : X <+: r
              · have hpl := hp.length_le
                have sx := fun w => str_mid b (72 + m) X.length (by omega) (72 + (m : Int)) (72 + (m : Int) + (X.length : Int)) (by omega) (by omega) w
                rw [HRD.out, ← List.prefix_iff_eq_take.1 hp] at sx
                have ge1 : (b.length : Int) - (72 + (m : Int)) ≥ (X.length : Int) := by omega
                have hw : IntKind.i64.wrap (72 + (m : Int) + (X.length : Int)) = 72 + (m : Int) + (X.length : Int) := IntWalk.i64_in _ (by omega)
                have hfst : (b.drop (72 + m + X.length)).length = b.length - (72 + m + X.length) := List.length_drop
                have hdd : b.drop (72 + m + X.length) = r.drop X.length := by rw [← List.drop_drop, HRD.out]
                rw [hdd] at hfst
                have hXX : (X == X) = true := by simp
                by_cases hn2 : n ≤ (r.drop X.length).length
                · have ge2 : ¬ (b.length : Int) - (72 + (m : Int) + (X.length : Int)) < (n : Int) := by omega
                  obtain ⟨an, han⟩ : ∃ an : Int, an = (72 + (m : Int) + (X.length : Int)) + (n : Int) := ⟨_, rfl⟩
                  have hw2 : IntKind.i64.wrap ((72 + (m : Int) + (X.length : Int)) + (n : Int)) = an := by rw [han]; exact IntWalk.i64_in _ (by omega)
                  have hbW := HB.out.on KR.out
                  obtain ⟨A5, s5, q5⟩ := hbW.mid (72 + m + X.length) n (72 + (m : Int) + (X.length : Int)) an (by omega) (by omega) (by omega)
                  obtain ⟨A6, s6, q6, -⟩ := hbW.rest (72 + m + X.length + n) an (by omega) (by omega)
                  have hd2 : b.drop (72 + m + X.length + n) = (r.drop X.length).drop n := by rw [← List.drop_drop, hdd]
                  rw [hdd] at s5 q5
                  rw [hd2] at s6 q6
                  have hxl : ((r.drop X.length).take n).length = n := by rw [List.length_take]; omega
                  rw [hxl] at s5
                  obtain ⟨c5, hc5⟩ : ∃ x, x = c - (72 + m + X.length) := ⟨_, rfl⟩
                  obtain ⟨c6, hc6⟩ : ∃ x, x = c - (72 + m + X.length + n) := ⟨_, rfl⟩
                  rw [← hc5] at s5 q5
                  rw [← hc6] at s6 q6
                  obtain ⟨n6, hn6⟩ : ∃ x, x = ((r.drop X.length).drop n).length := ⟨_, rfl⟩
                  rw [← hn6] at s6
                  have hpr := RH1.out hp hn2
                  obtain ⟨x, hx⟩ : ∃ x, x = (r.drop X.length).take n := ⟨_, rfl⟩
                  obtain ⟨y, hy⟩ : ∃ y, y = (r.drop X.length).drop n := ⟨_, rfl⟩
                  have hl6 : ((r.drop X.length).drop n).length ≤ 140737488351232 := by rw [List.length_drop]; have := HL.out; omega
                  rw [← hx] at q5 hpr hxl
                  rw [← hy] at q6 hpr hn6 hl6
                  have CX := Lib.hid (fun (W : World) (h : Below wr.heap.size wr W) (g : Nat) (h1 : wr.heap.size ≤ g) (h2 : g < W.heap.size) => run_ontoB (A := A5) (m := n) (c := c5) hxl.symm (q5.bys.on h) q5.nil (by omega) h1 h2)
                  have CY := Lib.hid (fun (W : World) (h : Below wr.heap.size wr W) (g : Nat) (h1 : wr.heap.size ≤ g) (h2 : g < W.heap.size) => run_ontoB (A := A6) (m := n6) (c := c6) hn6 (q6.bys.on h) q6.nil hl6 h1 h2)
                  have HF : Hid (∀ v1 v2 w', Below wr.heap.size wr w' → OwnB w' wr.heap.size v1 x → OwnB w' wr.heap.size v2 y → Q (.returned (.tuple #[.int .i64 200, v1, v2, .int .i64 0])) w') := Lib.hid (fun v1 v2 w' k5 o1 o2 => HQ2.out w' x y v1 v2 (KR.out.trans (k5.mono KR.out.size)) hpr (o1.mono KR.out.size) (o2.mono KR.out.size))
                  clear hp RH1 RS1 RN1 RF1 RH RS RE RFF C HH HM HRD HRL hbW q5 q6 hd2 hdd hc5 hc6 hn6 hpr hx hy hxl hl6 han hfst HQ HQ2 hn2 HPR
                  go_wp2_with fail
                  refine wp_region_under 15 (by kernel_rfl) (by kernel_rfl) (by kernel_rfl) rfl (d := (fun i => 116 + i)) (R := PRK wr.heap.size b.length c n (72 + (m : Int) + (X.length : Int)) an A A5 A6 c5 c6 n6 x y) (B := wr.heap.size) (Nat.le_refl _) (fun i j hi hj e => by omega) (fun i hi => by simp; omega) PRK_on (fun i hi bq a' w' un hr => ?_) (fun V w' hV hB hs => ?_)
                  · obtain ⟨_, o, ho, hall⟩ := mem_ready.1 hr
                    have t0 : (a'.tmps[0]?).getD undef = .slice A b.length c := slot_of ((un.old 0 (fun i _ => by omega)).trans rfl)
                    have t7 : (a'.tmps[7]?).getD undef = .int .i64 (72 + (m : Int) + (X.length : Int)) := slot_of ((un.old 7 (fun i _ => by omega)).trans rfl)
                    have t9 : (a'.tmps[9]?).getD undef = .int .i64 n := slot_of ((un.old 9 (fun i _ => by omega)).trans rfl)
                    match i, hi with
                    | 0, _ =>
                      obtain rfl := Option.some.inj ho
                      refine ⟨_, rfl, rfl, ?_⟩
                      clear ho hall hr 
                      unfold Oper.wp
                      go_simp
                      exact ⟨_, rfl, ⟨_, rfl, un.big, by simp⟩, Below.alloc (Below.refl _ _) (Nat.le_refl _) _⟩
                    | 1, _ =>
                      obtain rfl := Option.some.inj ho
                      refine ⟨_, rfl, rfl, ?_⟩
                      clear ho hall hr  un
                      unfold Oper.wp
                      go_simp
                      exact ⟨_, rfl, rfl, Below.refl _ _⟩
                    | 2, _ =>
                      obtain rfl := Option.some.inj ho
                      refine ⟨_, rfl, rfl, ?_⟩
                      clear ho hall hr  un
                      unfold Oper.wp
                      go_simp
                      exact ⟨_, rfl, rfl, Below.refl _ _⟩
                    | 3, _ =>
                      obtain rfl := Option.some.inj ho
                      refine ⟨_, rfl, rfl, ?_⟩
                      clear ho hall hr  un
                      unfold Oper.wp
                      go_simp
                      exact ⟨_, rfl, rfl, Below.refl _ _⟩
                    | 4, _ =>
                      obtain rfl := Option.some.inj ho
                      refine ⟨_, rfl, rfl, ?_⟩
                      clear ho hall hr  un
                      unfold Oper.wp
                      go_simp
                      exact ⟨_, rfl, rfl, Below.refl _ _⟩
                    | 5, _ =>
                      obtain rfl := Option.some.inj ho
                      have h3 := getD_both_true (hall ⟨3, .data⟩ (by simp) rfl)
                      obtain ⟨v3, hv3, hr3⟩ := un.got 3 (by simp) h3
                      obtain rfl := hr3
                      have s3 := slot_of (j := 119) hv3
                      have h4 := getD_both_true (hall ⟨4, .data⟩ (by simp) rfl)
                      obtain ⟨v4, hv4, hr4⟩ := un.got 4 (by simp) h4
                      obtain rfl := hr4
                      have s4 := slot_of (j := 120) hv4
                      refine ⟨_, rfl, rfl, ?_⟩
                      clear ho hall hr hv3 hv4 un
                      unfold Oper.wp
                      go_simp
                      exact ⟨_, rfl, rfl, Below.refl _ _⟩
                    | 6, _ =>
                      obtain rfl := Option.some.inj ho
                      have h1 := getD_both_true (hall ⟨1, .data⟩ (by simp) rfl)
                      obtain ⟨v1, hv1, hr1⟩ := un.got 1 (by simp) h1
                      obtain rfl := hr1
                      have s1 := slot_of (j := 117) hv1
                      have h2 := getD_both_true (hall ⟨2, .data⟩ (by simp) rfl)
                      obtain ⟨v2, hv2, hr2⟩ := un.got 2 (by simp) h2
                      obtain rfl := hr2
                      have s2 := slot_of (j := 118) hv2
                      have h5 := getD_both_true (hall ⟨5, .data⟩ (by simp) rfl)
                      obtain ⟨v5, hv5, hr5⟩ := un.got 5 (by simp) h5
                      obtain rfl := hr5
                      have s5 := slot_of (j := 121) hv5
                      refine ⟨_, rfl, rfl, ?_⟩
                      clear ho hall hr hv1 hv2 hv5 un
                      unfold Oper.wp
                      go_simp
                      exact ⟨_, rfl, rfl, Below.refl _ _⟩
                    | 7, _ =>
                      obtain rfl := Option.some.inj ho
                      have h0 := getD_both_true (hall ⟨0, .data⟩ (by simp) rfl)
                      obtain ⟨v0, hv0, hr0⟩ := un.got 0 (by simp) h0
                      have s0 := slot_of (j := 116) hv0
                      have h6 := getD_both_true (hall ⟨6, .data⟩ (by simp) rfl)
                      obtain ⟨v6, hv6, hr6⟩ := un.got 6 (by simp) h6
                      obtain rfl := hr6
                      have s6 := slot_of (j := 122) hv6
                      obtain ⟨g0, rfl, hg0, hg1⟩ := hr0
                      obtain ⟨v9, w9, hrun, ho9, hb9⟩ := CX.out _ un.bel g0 hg0 hg1
                      refine ⟨_, rfl, rfl, ?_⟩
                      clear ho hall hr hv0 hv6
                      exact wp_app2 rfl (.tmp 116) (.tmp 122) _ rfl _ _ (by simpa [Act.eval] using s0) (by simpa [Act.eval] using s6) hrun ⟨_, rfl, ho9, hb9⟩
                    | 8, _ =>
                      obtain rfl := Option.some.inj ho
                      refine ⟨_, rfl, rfl, ?_⟩
                      clear ho hall hr 
                      unfold Oper.wp
                      go_simp
                      exact ⟨_, rfl, ⟨_, rfl, un.big, by simp⟩, Below.alloc (Below.refl _ _) (Nat.le_refl _) _⟩
                    | 9, _ =>
                      obtain rfl := Option.some.inj ho
                      refine ⟨_, rfl, rfl, ?_⟩
                      clear ho hall hr  un
                      unfold Oper.wp
                      go_simp
                      exact ⟨_, rfl, rfl, Below.refl _ _⟩
                    | 10, _ =>
                      obtain rfl := Option.some.inj ho
                      refine ⟨_, rfl, rfl, ?_⟩
                      clear ho hall hr  un
                      unfold Oper.wp
                      go_simp
                      exact ⟨_, rfl, rfl, Below.refl _ _⟩
                    | 11, _ =>
                      obtain rfl := Option.some.inj ho
                      refine ⟨_, rfl, rfl, ?_⟩
                      clear ho hall hr  un
                      unfold Oper.wp
                      go_simp
                      exact ⟨_, rfl, rfl, Below.refl _ _⟩
                    | 12, _ =>
                      obtain rfl := Option.some.inj ho
                      have h10 := getD_both_true (hall ⟨10, .data⟩ (by simp) rfl)
                      obtain ⟨v10, hv10, hr10⟩ := un.got 10 (by simp) h10
                      obtain rfl := hr10
                      have s10 := slot_of (j := 126) hv10
                      have h11 := getD_both_true (hall ⟨11, .data⟩ (by simp) rfl)
                      obtain ⟨v11, hv11, hr11⟩ := un.got 11 (by simp) h11
                      obtain rfl := hr11
                      have s11 := slot_of (j := 127) hv11
                      refine ⟨_, rfl, rfl, ?_⟩
                      clear ho hall hr hv10 hv11 un
                      unfold Oper.wp
                      go_simp
                      exact ⟨_, rfl, rfl, Below.refl _ _⟩
                    | 13, _ =>
                      obtain rfl := Option.some.inj ho
                      have h9 := getD_both_true (hall ⟨9, .data⟩ (by simp) rfl)
                      obtain ⟨v9, hv9, hr9⟩ := un.got 9 (by simp) h9
                      obtain rfl := hr9
                      have s9 := slot_of (j := 125) hv9
                      have h12 := getD_both_true (hall ⟨12, .data⟩ (by simp) rfl)
                      obtain ⟨v12, hv12, hr12⟩ := un.got 12 (by simp) h12
                      obtain rfl := hr12
                      have s12 := slot_of (j := 128) hv12
                      refine ⟨_, rfl, rfl, ?_⟩
                      clear ho hall hr hv9 hv12 un
                      unfold Oper.wp
                      go_simp
                      exact ⟨_, rfl, rfl, Below.refl _ _⟩
                    | 14, _ =>
                      obtain rfl := Option.some.inj ho
                      have h8 := getD_both_true (hall ⟨8, .data⟩ (by simp) rfl)
                      obtain ⟨v8, hv8, hr8⟩ := un.got 8 (by simp) h8
                      have s8 := slot_of (j := 124) hv8
                      have h13 := getD_both_true (hall ⟨13, .data⟩ (by simp) rfl)
                      obtain ⟨v13, hv13, hr13⟩ := un.got 13 (by simp) h13
                      obtain rfl := hr13
                      have s13 := slot_of (j := 129) hv13
                      obtain ⟨g0, rfl, hg0, hg1⟩ := hr8
                      obtain ⟨v9, w9, hrun, ho9, hb9⟩ := CY.out _ un.bel g0 hg0 hg1
                      refine ⟨_, rfl, rfl, ?_⟩
                      clear ho hall hr hv8 hv13
                      exact wp_app2 rfl (.tmp 124) (.tmp 129) _ rfl _ _ (by simpa [Act.eval] using s8) (by simpa [Act.eval] using s13) hrun ⟨_, rfl, ho9, hb9⟩
                  · have o7 : OwnB w' wr.heap.size (V 7) x := hV 7 (by omega)
                    have o14 : OwnB w' wr.heap.size (V 14) y := hV 14 (by omega)
                    simp only [putAll, Act.put, Nat.reduceAdd, List.setIfInBounds_toArray, List.set_cons_succ, List.set_cons_zero, List.drop_succ_cons, List.drop_zero]
                    have HFF := Lib.hid (HF.out (V 7) (V 14) w' hB o7 o14)
                    generalize V 0 = y0, V 1 = y1, V 2 = y2, V 3 = y3, V 4 = y4, V 5 = y5, V 6 = y6, V 7 = y7, V 8 = y8, V 9 = y9, V 10 = y10, V 11 = y11, V 12 = y12, V 13 = y13, V 14 = y14 at *
                    clear hV o7 o14
                    go_wp2_with fail
                    go_returns
                    exact HFF.out
                · have lt2 : (b.length : Int) - (72 + (m : Int) + (X.length : Int)) < (n : Int) := by omega
                  have HF := Lib.hid (HQ.out wr 20 KR.out (RF1.out hp hn2))
                  unfold noneE at HF
                  clear hp RH1 RS1 RN1 RF1 RH RS RE RFF C HH HM HRD HRL hdd hfst HQ HQ2 hn2
                  go_wp2_with fail
                  go_returns
                  exact HF.out
              · by_cases hs : X.length ≤ r.length
                · have sx := fun w => str_mid b (72 + m) X.length (by omega) (72 + (m : Int)) (72 + (m : Int) + (X.length : Int)) (by omega) (by omega) w
                  rw [HRD.out] at sx
                  have hne : (r.take X.length == X) = false := by
                    rw [pre_take X r hs, ← Bool.not_eq_true, pre_iff]
                    exact hp
                  have ge1 : (b.length : Int) - (72 + (m : Int)) ≥ (X.length : Int) := by omega
                  have lt1 : ¬ (b.length : Int) - (72 + (m : Int)) < (X.length : Int) := by omega
                  have hw : IntKind.i64.wrap (72 + (m : Int) + (X.length : Int)) = 72 + (m : Int) + (X.length : Int) := IntWalk.i64_in _ (by omega)
                  have HN1 := Lib.hid (RN1.out hp (fun e => hp (by
                    have := e.eq_of_length_le hs
                    rw [this]
                    exact List.prefix_refl _)))
                  generalize r.take X.length = t9 at *
                  clear hp RH1 RS1 RN1 RF1 RH RS RE RFF C HH HM HRD HRL
                  go_wp2_with fail
                  go_roundw
                  case rel => exact ⟨k + 1, by go_num, by omega, HN1, hB, by first | rfl | trivial⟩
                  case measure => simp [intOf]; omega
                · have ge1 : ¬ (b.length : Int) - (72 + (m : Int)) ≥ (X.length : Int) := by omega
                  have lt1 : (b.length : Int) - (72 + (m : Int)) < (X.length : Int) := by omega
                  have sr := fun w => str_rest b (72 + m) (by omega) (72 + (m : Int)) (by omega) w
                  rw [HRD.out] at sr
                  have BX := begins_any r X wr (by omega) (by omega)
                  by_cases hq : r <+: X
                  · rw [beg_yes (.inl hq)] at BX
                    have BX := Lib.hid BX
                    have HF0 := Lib.hid (fun w' k => HQ.out w' 20 k (RS1.out hp hq))
                    unfold noneE at HF0
                    clear hp hq RH1 RS1 RN1 RF1 RH RS RE RFF C HH HM HRD HRL
                    go_wp2_with fail
                    refine BX.out.mono ?_
                    rintro e w5 ⟨rfl, k5⟩
                    have HF := Lib.hid (HF0.out w5 (KR.out.trans (k5.mono KR.out.size)))
                    clear k5 BX
                    go_wp2_with fail
                    go_returns
                    exact HF.out
                  · rw [beg_no hq hp] at BX
                    have BX := Lib.hid BX
                    have HN1 := Lib.hid (RN1.out hp hq)
                    clear hp hq RH1 RS1 RN1 RF1 RH RS RE RFF HH HM HRD HRL
                    go_wp2_with fail
                    refine BX.out.mono ?_
                    rintro e w5 ⟨rfl, k5⟩
                    have HB5 := Lib.hid (hB.out.trans (k5.mono hB.out.size))
                    clear k5 BX
                    go_wp2_with fail
                    go_roundw
                    case rel => exact ⟨k + 1, by go_num, by omega, HN1, HB5, by first | rfl | trivial⟩
                    case measure => simp [intOf]; omega
            · obtain rfl : k = 2 := by omega
              have HF := Lib.hid (HQ.out wr 130 KR.out (RE.out hh.out))
              unfold noneE at HF
              clear C RH RS RE RFF HH HM HRD HRL
              go_wp2_with fail
              go_returns
              exact HF.out
end Go.Proofs.YtjhmjokmjoldkaaGreatDoor
namespace Go.Proofs.YtjhmjokmjoldkaaGreatDoor
open Go.RowKit
set_option linter.unusedVariables false
set_option maxRecDepth 100000

theorem dParse_any (A : Option Addr) (b : Bs) (c : Nat) (w : World) (hb : Sl w A c b) (hl : b.length ≤ 140737488351232) : Calls Tryz.prog 7 #[.slice A b.length c] w (ParseP w (parseR b)) := by
  by_cases h3 : headR false 0 false <+: b
  · exact dParse_bad A b c w hb hl h3
  by_cases h1 : b <+: sTold
  · by_cases h66 : b.length < 66
    · exact dParse_near A b c w hb h1 h66
    · exact dParse_told A b c w hb hl (.inl h1) h3 (by omega)
  by_cases h2 : sTold <+: b
  · refine dParse_told A b c w hb hl (.inr h2) h3 ?_
    have := h2.length_le
    rw [show sTold.length = 72 from by decide] at this
    omega
  · exact dParse_far A b c w hb h2 h1 h3
def codeR (r : Option (Bool × Bs × Bs) × Nat) : Int := match r.1 with | none => 0 | some x => if x.1 then 200 else 400
def bodyR (r : Option (Bool × Bs × Bs) × Nat) : Bs := match r.1 with | none => [] | some x => x.2.1
def leftR (r : Option (Bool × Bs × Bs) × Nat) : Bs := match r.1 with | none => [] | some x => x.2.2
def errR (r : Option (Bool × Bs × Bs) × Nat) : Nat := match r.1 with | none => r.2 | some _ => 0
theorem ParseP.sl {w w' : World} {r : Option (Bool × Bs × Bs) × Nat} {e : Ending} (h : ParseP w r e w') : Below w.heap.size w w' ∧ ∃ A1 c1 A2 c2, e = .returned (.tuple #[.int .i64 (codeR r), .slice A1 (bodyR r).length c1, .slice A2 (leftR r).length c2, .int .i64 (errR r)]) ∧ Sl w' A1 c1 (bodyR r) ∧ Sl w' A2 c2 (leftR r) := by
  obtain ⟨r1, r2⟩ := r
  obtain ⟨k, ⟨h1, h2⟩ | ⟨ok, x, y, vx, vy, h1, h2, ox, oy⟩⟩ := h
  · simp only at h1
    subst h1
    exact ⟨k, none, 0, none, 0, h2, Sl.none _, Sl.none _⟩
  · simp only at h1
    subst h1
    obtain ⟨A1, c1, rfl, s1⟩ := ox.bysN
    obtain ⟨A2, c2, rfl, s2⟩ := oy.bysN
    exact ⟨k, A1, c1, A2, c2, h2, s1, s2⟩
theorem parseL_len {b x y : Bs} {ok : Bool} : ∀ (cs : List (Bool × Nat × Bool)) (f : Nat), (parseL b cs f).1 = some (ok, x, y) → y.length ≤ b.length
  | [], f, h => by simp [parseL] at h
  | (k, m, p) :: r, f, h => by
    rcases h2 : hitR b (headR k m p) m with _ | _ | ⟨x', y'⟩
    · rw [parseL_none h2] at h
      exact parseL_len r f h
    · rw [parseL_short h2] at h
      exact parseL_len r 20 h
    · rw [parseL_done h2] at h
      simp only [Option.some.injEq, Prod.mk.injEq] at h
      obtain ⟨-, -, rfl⟩ := h
      unfold hitR at h2
      split at h2
      · split at h2
        · simp only [Option.some.injEq, Prod.mk.injEq] at h2
          obtain ⟨-, rfl⟩ := h2
          rw [List.length_drop, List.length_drop]
          omega
        · cases h2
      · split at h2 <;> cases h2
set_option maxHeartbeats 4000000 in
set_option maxRecDepth 100000 in
theorem HttpParses_any (A : Option Addr) (l : Bs) (c : Nat) (w : World) (hS : Sl w A c l) (hl : l.length ≤ 140737488351232) (hM : MaxL w) (hI : ∀ n w', n ≤ 65535 → Below w.heap.size w w' → IT n w') : Calls Tryz.prog 3 #[.slice A l.length c] w fun e w' => e = .returned (.bool true) ∧ Below w.heap.size w w' := by
  have CL := Lib.hid (CloneB_any A l l.length c w hS.bys rfl hl (fun p hp h0 => hS.inside p hp h0))
  have HS := Lib.hid hS
  have HM := Lib.hid hM
  have HI := Lib.hid hI
  have HL := Lib.hid hl
  have HPL := Lib.hid (fun ok x y (e : (parseR l).1 = some (ok, x, y)) => Nat.le_trans (parseL_len (candsR (toldH l)) 130 e) hl)
  have P1 := Lib.hid (fun (A : Option Addr) (c : Nat) (W : World) (h : Sl W A c l) (k : Below w.heap.size w W) => parseReply_any A l c W h HPL.out (fun n w' hn kk => HI.out n w' hn (k.trans (kk.mono k.size))))
  have P2 := Lib.hid (fun (W : World) (k : Below w.heap.size w W) => dParse_any A l c W (hS.on k) hl)
  generalize parseR l = r at *
  obtain ⟨nl, hnl⟩ : ∃ n, n = l.length := ⟨_, rfl⟩
  rw [← hnl] at CL P1 P2 ⊢
  have HNL := Lib.hid hnl
  clear hS hM hI hl hnl
  go_enter Tryz.func3, Tryz.ntmps3
  go_wp2_with fail
  refine CL.out.mono ?_
  rintro e w1 ⟨v1, rfl, o1, k1⟩
  obtain ⟨A1, c1, rfl, s1⟩ := o1.bysN
  have K1 := Lib.hid k1
  have S1 := Lib.hid s1
  rw [← HNL.out]
  clear CL o1 k1 s1
  go_wp2_with fail
  refine (P1.out A1 c1 w1 S1.out K1.out).mono ?_
  intro e w2 hp
  obtain ⟨k2, A2, c2, A3, c3, rfl, s2, s3⟩ := hp.sl
  have K2 := Lib.hid (K1.out.trans (k2.mono K1.out.size))
  have S12 := Lib.hid (S1.out.on k2)
  have S2 := Lib.hid s2
  have S3 := Lib.hid s3
  clear hp k2 s2 s3 P1 S1
  go_wp2_with fail
  refine (P2.out w2 K2.out).mono ?_
  intro e w3 hp
  obtain ⟨k3, A4, c4, A5, c5, rfl, s4, s5⟩ := hp.sl
  have K3 := Lib.hid (K2.out.trans (k3.mono K2.out.size))
  have E1 := EqualB_any A2 A4 (bodyR r) (bodyR r) (bodyR r).length (bodyR r).length c2 c4 w3 (S2.out.on k3).bys s4.bys rfl rfl
  have E2 := EqualB_any A3 A5 (leftR r) (leftR r) (leftR r).length (leftR r).length c3 c5 w3 (S3.out.on k3).bys s5.bys rfl rfl
  have E3 := EqualB_any A1 A l l nl nl c1 c w3 (S12.out.on k3).bys (HS.out.on K3.out).bys HNL.out HNL.out
  rw [show (bodyR r == bodyR r) = true by simp] at E1
  rw [show (leftR r == leftR r) = true by simp] at E2
  rw [show (l == l) = true by simp] at E3
  have E1 := Lib.hid E1
  have E2 := Lib.hid E2
  have E3 := Lib.hid E3
  have AW := Lib.hid (awakeH_any w3 (HM.out.on K3.out))
  generalize (bodyR r).length = nb at *
  generalize (leftR r).length = nf at *
  generalize codeR r = cr at *
  generalize errR r = er at *
  have hc : (cr == cr) = true := by simp
  have he : ((er : Int) == (er : Int)) = true := by simp
  clear hp k3 s4 s5 P2 S12 S2 S3 HPL
  go_wp2_with fail
  refine E1.out.mono ?_
  rintro e w4 ⟨rfl, rfl⟩
  go_wp2_with fail
  refine E2.out.mono ?_
  rintro e w4 ⟨rfl, rfl⟩
  go_wp2_with fail
  refine E3.out.mono ?_
  rintro e w4 ⟨rfl, rfl⟩
  go_wp2_with fail
  refine AW.out.mono ?_
  rintro e w4 ⟨rfl, k4⟩
  have HF := Lib.hid (K3.out.trans (k4.mono K3.out.size))
  clear k4
  go_wp2_with fail
  go_ret
  exact ⟨rfl, HF.out⟩
end Go.Proofs.YtjhmjokmjoldkaaGreatDoor
namespace Go.Proofs.YtjhmjokmjoldkaaGreatDoor
open Go.ChangeShapes Go.WideShapes Go.ChangeAt Go.RowKit Go.Deep Go.Shelf
set_option linter.unusedVariables false
set_option maxRecDepth 100000

/-- Itoa's contract, where its table lies. -/
theorem IT_of (n : Nat) (w : World) (hn : n ≤ 9223372036854775807) (hT : Lib.TabIs Tryz.prog w "internal/strconv.uint64pow10" .u64 Lib.pow10Tab) : IT n w := by
  unfold IT decD
  refine (Any.strconv_Itoa Tryz.laysM171 (n : Int) (by omega) (by omega) w hT).mono ?_
  rintro e w' ⟨rfl, k, os, rfl⟩
  refine ⟨?_, ?_⟩
  · unfold Lib.itoa
    rw [if_neg (by omega), Int.toNat_natCast]
  · exact Lib.below_grow w.heap.size w (Nat.le_refl _) k os
theorem pow_name : Tryz.prog.globalNamed "internal/strconv.uint64pow10" = some 3 := by kernel_rfl
theorem pow_type : (Tryz.prog.globals[3]?).map (·.type) = some 121 := by kernel_rfl
theorem pow_data : (Rows.laid_internal_strconv_uint64pow10 : DataW Unit) = Lib.tabData .u64 Lib.pow10Tab := by kernel_rfl
theorem tabP_of {W : World} (h : laidMetH Tryz.prog Rows.httpParsesRow.laid W) : Lib.TabIs Tryz.prog W "internal/strconv.uint64pow10" .u64 Lib.pow10Tab := by
  have h' : laidMet Tryz.prog [("math/bits.deBruijn32tab", Rows.laid_math_bits_deBruijn32tab), ("math/bits.deBruijn64tab", Rows.laid_math_bits_deBruijn64tab), ("internal/strconv.uint64pow10", Rows.laid_internal_strconv_uint64pow10), ("unicode/utf8.acceptRanges", Rows.laid_unicode_utf8_acceptRanges), ("unicode.CaseRanges", Rows.laid_unicode_CaseRanges), ("unicode/utf8.first", Rows.laid_unicode_utf8_first)] W := h
  have h2 := (laidMet.tail (laidMet.tail h'))
  rw [pow_data] at h2
  exact Lib.tabIs_of_head pow_name pow_type Tryz.underlying121 Tryz.underlying100 (by kernel_rfl) (by kernel_rfl) h2
theorem tabP_on {W W1 : World} (h : Lib.TabIs Tryz.prog W "internal/strconv.uint64pow10" .u64 Lib.pow10Tab) (k : Below W.heap.size W W1) : Lib.TabIs Tryz.prog W1 "internal/strconv.uint64pow10" .u64 Lib.pow10Tab := by
  have hc := Lib.TabIs.cell h pow_name 0 (by rw [Lib.pow10Tab_length]; omega)
  have := World.block_lt_of_cell? W _ hc
  unfold Lib.TabIs at h ⊢
  exact var?_below k pow_name this h
end Go.Proofs.YtjhmjokmjoldkaaGreatDoor
