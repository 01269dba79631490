/-
  The document's digits of a number, and its body in chunks.
-/
import Derived.Test.YtjhameebehkdjaaGreatDoorCkO
import Derived.Test.YtjhameebehkdjaaGreatDoorSl
import Derived.Test.YtjhameebehkdjaaGreatDoorGa
import Derived.Deep.QuietTactic
import Derived.BigQuiet
import Derived.Test.YtjhameebehkdjaaGreatDoorGb
namespace Go.Proofs.YtjhameebehkdjaaGreatDoor
open Go.RowKit
set_option linter.unusedVariables false
set_option maxRecDepth 100000

theorem hexd_at {r : Nat} (h : r < 16) : (bs [48, 49, 50, 51, 52, 53, 54, 55, 56, 57, 97, 98, 99, 100, 101, 102]).extract r (r + 1) = bs [hexd r] := by
  have : ∀ r : Fin 16, (bs [48, 49, 50, 51, 52, 53, 54, 55, 56, 57, 97, 98, 99, 100, 101, 102]).extract r.val (r.val + 1) = bs [hexd r.val] := by
    intro r
    rw [bs_extract]
    revert r
    decide
  exact this ⟨r, h⟩
set_option maxHeartbeats 1000000 in
theorem hex_small (n : Nat) (hn : n < 16) (w : World) : Calls Tryz.prog 28 #[.int .i64 n] w fun e w' => e = .returned (.string (bs (hexC n))) ∧ w' = w := by
  rw [hexC_small hn]
  have hr : (n : Int) % 16 = (n : Int) := by omega
  have h1 : (n : Int) < 16 := by omega
  have h2 : IntKind.i64.wrap ((n : Int) + 1) = (n : Int) + 1 := IntWalk.i64_in _ (by omega)
  have H := Lib.hid (hexd_at hn)
  have h3 : (n : Int) + 1 ≤ 16 := by omega
  clear hn
  go_enter Tryz.func28, Tryz.ntmps28
  go_wp2_with fail
  go_ret
  exact ⟨by rw [← H.out]; rfl, rfl⟩
set_option maxHeartbeats 1000000 in
theorem hex_ref : ∀ (k n : Nat), n < 16 ^ (k + 1) → n < 9223372036854775807 → ∀ w, Calls Tryz.prog 28 #[.int .i64 n] w fun e w' => e = .returned (.string (bs (hexC n))) ∧ w' = w := by
  intro k
  induction k with
  | zero => exact fun n hn _ w => hex_small n (by simpa using hn) w
  | succ k ih =>
    intro n hn hm w
    by_cases hs : n < 16
    · exact hex_small n hs w
    rw [hexC_big hs]
    have hr0 : n % 16 < 16 := Nat.mod_lt _ (by omega)
    obtain ⟨r, hrr⟩ : ∃ r, r = n % 16 := ⟨_, rfl⟩
    obtain ⟨q, hq⟩ : ∃ q, q = n / 16 := ⟨_, rfl⟩
    have E := Lib.hid (ih q (by rw [hq]; rw [Nat.pow_succ] at hn; omega) (by omega) w)
    rw [← hrr] at hr0 ⊢
    rw [← hq]
    have hr : (n : Int) % 16 = (r : Int) := by omega
    have hd : (n : Int) / 16 = (q : Int) := by omega
    have h1 : ¬ (n : Int) < 16 := by omega
    have h2 : IntKind.i64.wrap ((r : Int) + 1) = (r : Int) + 1 := IntWalk.i64_in _ (by omega)
    have H := Lib.hid (hexd_at hr0)
    have h3 : (r : Int) + 1 ≤ 16 := by omega
    have hn0 : (0 : Int) ≤ (n : Int) := by omega
    have h5 : wrap64 (q : Int) = (q : Int) := by unfold wrap64; omega
    have h6 : (hexC q).length + (min (r + 1) 16 - r) ≤ 9223372036854775807 := by
      have := (hexC_len 16 q (by omega) (by omega)).2
      omega
    clear hn hs hrr hq hr0 ih hm
    go_enter Tryz.func28, Tryz.ntmps28
    go_wp2_with fail
    refine E.out.mono ?_
    rintro e w1 ⟨rfl, rfl⟩
    go_wp2_with fail
    go_ret
    exact ⟨(congrArg (fun z => Ending.returned (.string (bs (hexC q) ++ z))) H.out).trans (by rw [bs_append]), rfl⟩
section
variable {ops : Array Oper} {rest : List Oper} {o : Oper} {a : Act} {w : World} {Q : Exit → Act → World → Prop}
theorem wpList_appS (hgd : o.guard = none) (x y : Operand) (ho : o.op = .call { callee := .builtin .append, args := #[x, y], argTypes := #[29, 9] }) (base : Nat) (v : Value) (l : Bs) (hs : a.eval x = v) (hown : OwnR w base v l)
    (s : Bs) (z : ByteArray) (hx : a.eval y = .string z) (hz : z = bs s) (hlen : l.length + s.length ≤ 140737488355328) (hbase : base ≤ w.heap.size)
    (h : ∀ v' w', OwnR w' base v' (l ++ s) → w.grownBy w' v.ownBlock → wpList Tryz.prog ops Q rest (a.put o.dst v') w') : wpList Tryz.prog ops Q (o :: rest) a w := by
  refine wpList_plain hgd fun K hK => ?_
  obtain ⟨v', w', hr, h1, h2⟩ := run_appS o.type hown s hlen hbase
  rw [hz] at hx
  unfold Oper.wp execOp
  simp only [ho, resolve, invoke, builtin, Sem.run_bind, Sem.run_pure, Result.andThen_ok, List.map_toArray, List.map_cons, List.map_nil, hs, hx, hr]
  exact hK _ _ (h v' w' h1 h2)
end
theorem chunkC_len {d : Bs} (h0 : 0 < d.length) (h1 : d.length < 16 ^ 6) : (chunkC d).length ≤ 6 * d.length := by
  have h := (hexC_len 6 d.length (by omega) h1).2
  have e : (chunkC d).length = (hexC d.length).length + 4 + d.length := by simp [chunkC]; omega
  by_cases h2 : d.length < 16
  · rw [hexC_small h2] at e
    simp at e
    omega
  · omega
theorem encC_len : ∀ (f size : Nat) (b : Bs), 0 < size → size < 16 ^ 6 → (encC size f b).length ≤ 6 * b.length + 5
  | 0, size, b, _, _ => by simp [encC, endC]
  | f + 1, size, b, h0, h1 => by
    by_cases hb : b = []
    · subst hb; rw [enc_nil]; simp [endC]
    · have hl : 0 < b.length := List.length_pos_iff.2 hb
      have ht : (b.take size).length = min size b.length := List.length_take
      have hd : (b.drop size).length = b.length - size := List.length_drop
      rw [enc_step hb, List.length_append]
      have h2 := chunkC_len (d := b.take size) (by omega) (by omega)
      have h3 := encC_len f size (b.drop size) h0 h1
      omega
/-- What Encode answers. -/
def EncK (w : World) (b : Bs) (size : Int) (e : Ending) (w' : World) : Prop := Below w.heap.size w w' ∧ (((size < 1 ∨ 16777215 < size) ∧ e = .returned (.tuple #[.slice none 0 0, .int .i64 1])) ∨ (1 ≤ size ∧ size ≤ 16777215 ∧ ∃ v, e = .returned (.tuple #[v, .int .i64 0]) ∧ OwnB w' w.heap.size v (encK size.toNat b)))
/-- A slice's length. -/
def lenV (v : Value) : Nat := match v with | .slice _ n _ => n | _ => 0
theorem enc_none {size f : Nat} {b : Bs} (h : b.length = 0) : encC size f b = endC := by
  rw [List.length_eq_zero_iff.1 h, enc_nil]
set_option maxHeartbeats 4000000 in
theorem encK_ref (A : Option Addr) (b : Bs) (c : Nat) (size : Int) (w : World) (hb : Sl w A c b) (hl : b.length ≤ 17592186044416) : Calls Tryz.prog 16 #[.slice A b.length c, .int .i64 size] w (EncK w b size) := by
  have HD : Hid (∀ e w', EncK w b size e w' ↔ (Below w.heap.size w w' ∧ (((size < 1 ∨ 16777215 < size) ∧ e = .returned (.tuple #[.slice none 0 0, .int .i64 1])) ∨ (1 ≤ size ∧ size ≤ 16777215 ∧ ∃ v, e = .returned (.tuple #[v, .int .i64 0]) ∧ OwnB w' w.heap.size v (encK size.toNat b))))) := Lib.hid (fun _ _ => Iff.rfl)
  obtain ⟨n, hn⟩ : ∃ n, n = b.length := ⟨_, rfl⟩
  by_cases hs : size < 1 ∨ 16777215 < size
  · have HF := Lib.hid ((HD.out (.returned (.tuple #[.slice none 0 0, .int .i64 1])) w).2 ⟨Below.refl _ _, .inl ⟨hs, rfl⟩⟩)
    rw [← hn]
    generalize EncK w b size = Q at *
    clear hn hb HD hl
    by_cases h1 : size < 1
    · clear hs
      go_enter Tryz.func16, Tryz.ntmps16
      go_wp2_with fail
      exact HF.out
    · have h2 : 16777215 < size := hs.resolve_left h1
      clear hs
      go_enter Tryz.func16, Tryz.ntmps16
      go_wp2_with fail
      exact HF.out
  · have h1 : ¬ size < 1 := fun h => hs (.inl h)
    have h2 : ¬ 16777215 < size := fun h => hs (.inr h)
    obtain ⟨sz, hsz⟩ : ∃ sz : Nat, size = sz := ⟨size.toNat, by omega⟩
    subst hsz
    have hz0 : 0 < sz := by omega
    have hz1 : sz < 16 ^ 6 := by omega
    have HE : Hid (∀ v w', Below w.heap.size w w' → OwnR w' w.heap.size v (encC sz n b) → EncK w b sz (.returned (.tuple #[v, .int .i64 0])) w') := Lib.hid (fun v w' k o => (HD.out _ _).2 ⟨k, .inr ⟨by omega, by omega, v, rfl, by unfold encK; rw [← hn]; simpa using o.ownB⟩⟩)
    have HL := Lib.hid (encC_len n sz b hz0 hz1)
    rw [← hn] at hl HL ⊢
    generalize EncK w b sz = Q at *
    have HB := Lib.hid hb
    have HN := Lib.hid hn
    clear hb hn HD hs
    go_enter Tryz.func16, Tryz.ntmps16
    go_wp2_with fail
    go_loopw [0, 6] (fun u v wr => ∃ (r o : Bs) (f : Nat) (A1 : Option Addr) (c1 : Nat), u = .slice A1 r.length c1 ∧ Sl w A1 c1 r ∧ OwnR wr w.heap.size v o ∧ Below w.heap.size w wr ∧ Hid (encC sz n b = o ++ encC sz f r) ∧ r.length ≤ f ∧ r.length ≤ n) (fun u _ _ => lenV u)
    case atStart => exact ⟨b, [], n, A, c, by rw [← HN.out], HB.out, World.ownsRow_nil _ _ _ _, Below.refl _ _, Lib.hid rfl, by rw [← HN.out]; omega, by rw [← HN.out]; omega⟩
    case round =>
      obtain ⟨r, o, f, A1, c1, rfl, hr, ho, hB, hG, hf, hrn⟩ := hrel
      have HBB := Lib.hid hB
      have HR := Lib.hid hr
      have HO := Lib.hid ho
      have hlen := congrArg List.length hG.out
      rw [List.length_append] at hlen
      have hol : o.length ≤ 6 * n + 5 := by have := HL.out; omega
      obtain ⟨m, hm⟩ : ∃ m, m = r.length := ⟨_, rfl⟩
      rw [← hm]
      by_cases hm0 : m = 0
      · have G2 : Hid (encC sz n b = o ++ endC) := Lib.hid (by rw [hG.out, enc_none (by omega)])
        have HX : Hid (o.length + endC.length ≤ 140737488355328) := Lib.hid (by simp [endC]; omega)
        have hsz := hB.size
        have hmz : ¬ (0 : Int) < (m : Int) := by omega
        clear hr ho hB hG hlen hol hm
        go_wp2_with (first
          | (at_builtin; refine wpList_appS rfl (.tmp 35) (.const (.string ⟨#[48, 13, 10, 13, 10]⟩)) rfl w.heap.size _ o rfl HO.out endC _ rfl rfl HX.out hsz ?_)
          | fail)
        intro v1 w1 o1 g1
        rw [← G2.out] at o1
        have b1 : Below w.heap.size w w1 := HBB.out.grown g1 hsz (fun k hk => (HO.out.lt k hk).1)
        have HF := Lib.hid (HE.out v1 w1 b1 o1)
        clear o1 g1 b1 hsz
        go_wp2_with fail
        exact HF.out
      · obtain ⟨q, hq⟩ : ∃ q, q = min sz m := ⟨_, rfl⟩
        have hmin : min (sz : Int) (m : Int) = (q : Int) := by omega
        have hmp : (0 : Int) < (m : Int) := by omega
        have hrne : r ≠ [] := fun e => by rw [e] at hm; simp at hm; omega
        obtain ⟨f', rfl⟩ : ∃ f', f = f' + 1 := ⟨f - 1, by omega⟩
        have htk : r.take sz = r.take q := by rw [List.take_eq_take_iff]; omega
        have hdr : r.drop sz = r.drop q := by
          by_cases h : sz ≤ m
          · rw [show q = sz by omega]
          · rw [List.drop_eq_nil_of_le (by omega), List.drop_eq_nil_of_le (by omega)]
        have htl : (r.take q).length = q := by rw [List.length_take]; omega
        have G2 : encC sz n b = o ++ (hexC q ++ [13, 10]) ++ r.take q ++ [13, 10] ++ encC sz f' (r.drop q) := by
          rw [hG.out, enc_step hrne, htk, hdr, chunkC, htl]
          simp only [List.append_assoc]
        have hln := congrArg List.length G2
        simp only [List.length_append, htl, List.length_cons, List.length_nil] at hln
        have htot := HL.out
        have E := Lib.hid (hex_ref 6 q (by omega) (by omega) wr)
        have h6 : (hexC q).length + 2 ≤ 9223372036854775807 := by
          have := (hexC_len 7 q (by omega) (by omega)).2
          omega
        obtain ⟨d, hd⟩ : ∃ d, d = r.take q := ⟨_, rfl⟩
        have sp := slice_pre A1 r c1 q q (by omega) hr.le rfl
        have sd : Sl w A1 c1 d := by rw [hd]; exact ⟨hr.bys.pre q, by rw [htl]; have := hr.le; omega, hr.max, hr.nil⟩
        obtain ⟨A4, lo, s4, pl4⟩ := hr.rest q q (by omega) rfl
        obtain ⟨r', hr'⟩ : ∃ r', r' = r.drop q := ⟨_, rfl⟩
        rw [← hd] at G2 htl sp
        rw [← hr'] at G2 lo s4
        rw [← hm] at lo
        have hrl : r'.length = m - q := by rw [hr', List.length_drop]; omega
        rw [htl, ← hm] at sp
        rw [hrl] at lo
        obtain ⟨x1, hx1⟩ : ∃ x, x = hexC q ++ [13, 10] := ⟨_, rfl⟩
        obtain ⟨y1, hy1⟩ : ∃ x, x = o ++ x1 := ⟨_, rfl⟩
        obtain ⟨y2, hy2⟩ : ∃ x, x = y1 ++ d := ⟨_, rfl⟩
        have l1 : x1.length = (hexC q).length + 2 := by rw [hx1]; simp
        have l2 : y1.length = o.length + x1.length := by rw [hy1]; simp
        have l3 : y2.length = y1.length + d.length := by rw [hy2]; simp
        rw [← hx1, ← hy1, ← hy2] at G2
        have HY1 := Lib.hid hy1
        have HY2 := Lib.hid hy2
        have HG := Lib.hid G2
        have HX1 : Hid (o.length + x1.length ≤ 140737488355328) := Lib.hid (by omega)
        have HX2 : Hid (y1.length + d.length ≤ 140737488355328) := Lib.hid (by omega)
        have HX3 : Hid (y2.length + ([13, 10] : Bs).length ≤ 140737488355328) := Lib.hid (by simp; omega)
        have HSD := Lib.hid sd
        have HS4 := Lib.hid s4
        have HTL := Lib.hid htl
        have HRL := Lib.hid hrl
        have hsz := hB.size
        have HZ : Hid (bs (hexC q) ++ ⟨#[13, 10]⟩ = bs x1) := Lib.hid (by rw [hx1]; exact bs_append _ _)
        have hqm : q ≤ m ∧ 0 < q ∧ m ≤ f' + 1 ∧ m ≤ n := by omega
        clear hr ho hB hG hlen hol hm hq hrne htk hdr htl G2 hln htot hd hr' hrl sd s4 pl4 hm0 hf hx1 hy1 hy2 l1 l2 l3
        go_wp2_with fail
        refine E.out.mono ?_
        rintro e w1 ⟨rfl, rfl⟩
        go_wp2_with (first
          | (at_builtin; refine wpList_appS rfl (.tmp 21) (.tmp 24) rfl w.heap.size _ o rfl HO.out x1 _ rfl HZ.out HX1.out hsz ?_)
          | fail)
        intro v1 w2 o1 g1
        rw [← HY1.out] at o1
        have b1 : Below w.heap.size w w2 := HBB.out.grown g1 hsz (fun k hk => (HO.out.lt k hk).1)
        have hsz2 : w.heap.size ≤ w2.heap.size := b1.size
        have SD2 := Lib.hid (HSD.out.on b1)
        have HB1 := Lib.hid b1
        have O1 := Lib.hid o1
        clear g1 E HSD HX1 HBB HO b1 o1
        go_wp2_with (first
          | (at_builtin; refine wpList_appR rfl (.tmp 26) (.tmp 29) rfl w.heap.size _ y1 rfl O1.out A1 q c1 rfl d HTL.out.symm SD2.out.bys SD2.out.nil HX2.out hsz2 ?_)
          | fail)
        intro v2 w3 o2 g2
        rw [← HY2.out] at o2
        have b2 : Below w.heap.size w w3 := HB1.out.grown g2 hsz2 (fun k hk => (O1.out.lt k hk).1)
        have hsz3 : w.heap.size ≤ w3.heap.size := b2.size
        have HB2 := Lib.hid b2
        have O2 := Lib.hid o2
        clear g2 HB1 b2 O1 HX2 SD2 o2
        go_wp2_with (first
          | (at_builtin; refine wpList_appS rfl (.tmp 30) (.const (.string ⟨#[13, 10]⟩)) rfl w.heap.size _ y2 rfl O2.out [13, 10] _ rfl rfl HX3.out hsz3 ?_)
          | fail)
        intro v3 w4 o3 g3
        have b3 : Below w.heap.size w w4 := HB2.out.grown g3 hsz3 (fun k hk => (O2.out.lt k hk).1)
        have HB3 := Lib.hid b3
        have HO3 := Lib.hid o3
        clear g3 HB2 b3 O2 HX3 o3
        go_wp2_with fail
        go_roundw
        case rel => exact ⟨r', _, f', A4, c1 - q, by rw [HRL.out], HS4.out, HO3.out, HB3.out, HG, by have := HRL.out; omega, by have := HRL.out; omega⟩
        case measure => simp [lenV]; omega
end Go.Proofs.YtjhameebehkdjaaGreatDoor
