/-
  name.split: a name's places.
-/
import Derived.Test.YtjhameebehkdjaaGreatNmW
namespace Go.Proofs.YtjhameebehkdjaaGreat
open Go.RowKit









theorem byte_lt (l : Bs) (n : Nat) (h : n < l.length) : (l[n]).toNat ≤ 255 := by have := (l[n]).toNat_lt; omega

theorem labs_at {l : Bs} {n : Nat} (hn : n < l.length) : labs (l.drop n) = if (l[n]).toNat = 0 then (if l.drop (n + 1) = [] then some [] else none) else if 63 < (l[n]).toNat then none else (labs (l.drop (n + 1 + (l[n]).toNat))).map ((l.drop (n + 1)).take (l[n]).toNat :: ·) := by
  rw [List.drop_eq_getElem_cons hn, labs, List.drop_drop]

theorem labs_short {l : Bs} {n : Nat} (h : l.length ≤ n) : labs (l.drop n) = none := by
  rw [List.drop_eq_nil_of_le h, labs]

theorem enc_snoc (D : List Bs) (x : Bs) : (enc (D ++ [x])).length = (enc D).length + 1 + x.length := by
  rw [enc_append]; simp [enc]; omega

theorem st_old {D : List Bs} {x : Bs} {i : Nat} (h : i ≤ D.length) : st (D ++ [x]) i = st D i := by
  unfold st; rw [List.take_append_of_le_length h]
theorem st_all (D : List Bs) : st D D.length = (enc D).length := by unfold st; rw [List.take_length]



theorem can_none {l : Bs} (h : labs l = none) : can l = false := by unfold can; simp [h]






end Go.Proofs.YtjhameebehkdjaaGreat
