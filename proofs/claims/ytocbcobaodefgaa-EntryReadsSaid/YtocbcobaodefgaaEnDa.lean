/-
  Entries read: two readers, one law.
-/
import Derived.Test.YtocbcobaodefgaaEnR
namespace Go.Proofs.Ytocbcobaodefgaa
open Go.RowKit
set_option linter.unusedVariables false
set_option maxRecDepth 100000

def valN (t : Bs) : Nat := t.foldl (fun n x => n * 256 + x.toNat) 0
theorem valN_snoc (t : Bs) (x : UInt8) : valN (t ++ [x]) = valN t * 256 + x.toNat := by simp [valN]
theorem val_fold : ∀ (t : Bs) (n : Nat), t.foldl (fun n x => n * 256 + x.toNat) n = n * 256 ^ t.length + valN t
  | [], n => by simp [valN]
  | x :: t, n => by
    have h1 := val_fold t (n * 256 + x.toNat)
    have h2 := val_fold t (0 * 256 + x.toNat)
    have h3 : valN (x :: t) = (0 * 256 + x.toNat) * 256 ^ t.length + valN t := h2
    rw [List.foldl_cons, h1, h3, List.length_cons, Nat.pow_succ, Nat.add_mul, Nat.zero_mul, Nat.zero_add, Nat.add_assoc, Nat.mul_assoc, Nat.mul_comm 256]
theorem valN_cons (x : UInt8) (t : Bs) : valN (x :: t) = x.toNat * 256 ^ t.length + valN t := by
  have h : valN (x :: t) = (0 * 256 + x.toNat) * 256 ^ t.length + valN t := val_fold t (0 * 256 + x.toNat)
  rw [Nat.zero_mul, Nat.zero_add] at h
  exact h
theorem valN_lt : ∀ t : Bs, valN t < 256 ^ t.length
  | [] => by simp [valN]
  | x :: t => by
    have ih := valN_lt t
    have hx := x.toNat_lt
    rw [valN_cons, List.length_cons, Nat.pow_succ]
    have : x.toNat * 256 ^ t.length ≤ 255 * 256 ^ t.length := Nat.mul_le_mul_right _ (by omega)
    omega
theorem big_add (m k : Nat) : ∀ (j n : Nat), j ≤ k → big j (m * 256 ^ k + n) = big j n
  | 0, _, _ => rfl
  | j + 1, n, h => by
    rw [big_step, big_step, big_add m k j n (by omega)]
    congr 1
    have e : m * 256 ^ k + n = n + m * 256 ^ (k - j - 1) * 256 * 256 ^ j := by
      have : 256 ^ k = 256 ^ (k - j - 1) * 256 * 256 ^ j := by rw [← Nat.pow_succ, ← Nat.pow_add]; congr 1; omega
      rw [this]
      simp only [Nat.mul_assoc]
      omega
    rw [e, Nat.add_mul_div_right _ _ (Nat.pow_pos (by decide))]
    apply UInt8.toNat_inj.1
    simp
theorem big_val : ∀ t : Bs, big t.length (valN t) = t
  | [] => rfl
  | x :: t => by
    have ih := big_val t
    have hl := valN_lt t
    rw [List.length_cons, big_step, valN_cons, big_add _ _ _ _ (Nat.le_refl _), ih]
    congr 1
    rw [Nat.add_comm, Nat.add_mul_div_right _ _ (Nat.pow_pos (by decide)), Nat.div_eq_of_lt hl, Nat.zero_add]
    simp
theorem val_big : ∀ k n : Nat, valN (big k n) = n % 256 ^ k
  | 0, n => by simp [big, valN, Nat.mod_one]
  | k + 1, n => by
    rw [big_step, valN_cons, big_len, val_big k n, Nat.mod_pow_succ]
    simp
    rw [Nat.mul_comm, Nat.add_comm]

structure Rst where
  l : Bs
  sh : Bool
/-- A reader: so many bytes, what is left, a time. -/
structure Mach where
  O : Rst → Nat → Bs
  R : Rst → Nat → Rst
  E : Rst → Int
  S : Rst → Rst
  good : ∀ r n, (R r n).sh = false → r.sh = false ∧ r.l = O r n ++ (R r n).l ∧ (O r n).length = n
  can : ∀ a l, O ⟨a ++ l, false⟩ a.length = a ∧ R ⟨a ++ l, false⟩ a.length = ⟨l, false⟩
  goodE : ∀ r, (S r).sh = false → 0 ≤ E r → E r ≤ 1099511627776 → ∃ n : Nat, E r = n ∧ n ≤ 1099511627776 ∧ r.sh = false ∧ r.l = big 8 n ++ (S r).l
  canE : ∀ (n : Nat) l, n ≤ 1099511627776 → E ⟨big 8 n ++ l, false⟩ = n ∧ S ⟨big 8 n ++ l, false⟩ = ⟨l, false⟩
section
variable (M : Mach)
def num (r : Rst) (w : Nat) : Nat := valN (M.O r w)
def prt (r : Rst) (w : Nat) : Bs := M.O (M.R r w) (num M r w)
def prtR (r : Rst) (w : Nat) : Rst := M.R (M.R r w) (num M r w)
def lop : Nat → Rst → List Bs → List Bs × Rst
  | 0, r, ds => (ds, r)
  | n + 1, r, ds => if r.sh then (ds, r) else lop n (prtR M r 2) (ds ++ [prt M r 2])
/-- The states behind each part. -/
def rA (b : Bs) : Rst := M.R ⟨b, false⟩ 1
def rB (b : Bs) : Rst := prtR M (rA M b) 1
def rC (b : Bs) : Rst := M.R (rB M b) 2
def rD (b : Bs) : Rst := M.R (rC M b) 2
def rE (b : Bs) : Rst := M.R (rD M b) 1
def rF (b : Bs) : Rst := M.R (rE M b) 1
def rG (b : Bs) : Rst := M.S (rF M b)
def rH (b : Bs) : Rst := prtR M (rG M b) 1
def rI (b : Bs) : Rst := M.R (rH M b) 2
def doesN (b : Bs) : Nat := num M ⟨b, false⟩ 1
def lastL (b : Bs) : List Bs × Rst := lop M (num M (rH M b) 2) (rI M b) []
def keyR (b : Bs) : St := ⟨prt M (rA M b) 1, num M (rB M b) 2, num M (rC M b) 2, 0, 0, 0, [], []⟩
def setR (b : Bs) : St := ⟨prt M (rA M b) 1, num M (rB M b) 2, num M (rC M b) 2, num M (rD M b) 1, num M (rE M b) 1, M.E (rF M b), prt M (rG M b) 1, (lastL M b).1⟩
def entR (b : Bs) : St := if doesN M b = 1 then keyR M b else setR M b
def endR (b : Bs) : Rst := if doesN M b = 1 then rD M b else (lastL M b).2
/-- Are these no bytes of an entry? -/
def noR (b : Bs) : Bool := decide (1 < doesN M b) || ((endR M b).sh || (decide (0 < (endR M b).l.length) || !canE (decide (doesN M b = 1)) (entR M b)))

theorem prt_good {r : Rst} {w : Nat} (h : (prtR M r w).sh = false) : r.sh = false ∧ r.l = big w (prt M r w).length ++ (prt M r w ++ (prtR M r w).l) ∧ num M r w = (prt M r w).length ∧ (prt M r w).length < 256 ^ w := by
  obtain ⟨h1, h2, h3⟩ := M.good _ _ h
  obtain ⟨h4, h5, h6⟩ := M.good _ _ h1
  have e : num M r w = (prt M r w).length := h3.symm
  have hb := big_val (M.O r w)
  have hl := valN_lt (M.O r w)
  rw [h6] at hb hl
  refine ⟨h4, ?_, e, by rw [← e]; exact hl⟩
  rw [← e, h5]
  unfold num
  rw [hb]
  unfold prt prtR
  exact congrArg _ h2
theorem num_good {r : Rst} {w : Nat} (h : (M.R r w).sh = false) : r.sh = false ∧ r.l = big w (num M r w) ++ (M.R r w).l ∧ num M r w < 256 ^ w := by
  obtain ⟨h4, h5, h6⟩ := M.good _ _ h
  have hb := big_val (M.O r w)
  have hl := valN_lt (M.O r w)
  rw [h6] at hb hl
  refine ⟨h4, ?_, hl⟩
  unfold num
  rw [hb]
  exact h5
theorem num_can (w n : Nat) (l : Bs) (h : n < 256 ^ w) : num M ⟨big w n ++ l, false⟩ w = n ∧ M.R ⟨big w n ++ l, false⟩ w = ⟨l, false⟩ := by
  obtain ⟨h1, h2⟩ := M.can (big w n) l
  rw [big_len] at h1 h2
  exact ⟨by unfold num; rw [h1, val_big, Nat.mod_eq_of_lt h], h2⟩
theorem prt_can (w : Nat) (x l : Bs) (h : x.length < 256 ^ w) : prt M ⟨partB w x ++ l, false⟩ w = x ∧ prtR M ⟨partB w x ++ l, false⟩ w = ⟨l, false⟩ := by
  have e : partB w x ++ l = big w x.length ++ (x ++ l) := by simp [partB]
  rw [e]
  obtain ⟨h1, h2⟩ := num_can M w x.length (x ++ l) h
  obtain ⟨h3, h4⟩ := M.can x l
  unfold prt prtR
  rw [h1, h2]
  exact ⟨h3, h4⟩
theorem lop_good : ∀ (n : Nat) (r : Rst) (ds : List Bs), (lop M n r ds).2.sh = false → r.sh = false ∧ ∃ L, (lop M n r ds).1 = ds ++ L ∧ L.length = n ∧ r.l = partsB 2 L ++ (lop M n r ds).2.l
  | 0, r, ds, h => ⟨h, [], by simp [lop], rfl, by simp [lop, partsB]⟩
  | n + 1, r, ds, h => by
    rw [lop] at h ⊢
    cases hr : r.sh with
    | true => rw [hr, if_pos rfl] at h; rw [hr] at h; cases h
    | false =>
      rw [hr, if_neg (by decide)] at h
      obtain ⟨h1, L, h2, h3, h4⟩ := lop_good n _ _ h
      obtain ⟨_, h5, _, _⟩ := prt_good M h1
      rw [if_neg (by decide)]
      refine ⟨rfl, prt M r 2 :: L, by rw [h2]; simp, by simp [h3], ?_⟩
      rw [h5, h4]
      simp [partsB, partB]
theorem lop_can : ∀ (L : List Bs) (l : Bs) (ds : List Bs), (∀ x ∈ L, x.length ≤ 65535) → lop M L.length ⟨partsB 2 L ++ l, false⟩ ds = (ds ++ L, ⟨l, false⟩)
  | [], l, ds, _ => by simp [lop, partsB]
  | x :: L, l, ds, h => by
    have e : partsB 2 (x :: L) ++ l = partB 2 x ++ (partsB 2 L ++ l) := by simp [partsB]
    obtain ⟨h1, h2⟩ := prt_can M 2 x (partsB 2 L ++ l) (by have := h x (by simp); simp; omega)
    rw [List.length_cons, lop, if_neg (by simp), e, h1, h2, lop_can L l _ (fun y hy => h y (by simp [hy]))]
    simp

/-- What is an entry's bytes is read. -/
theorem read_can {d : Bool} {s : St} (h : canE d s = true) (t : Bs) : doesN M (encB d s ++ t) = (if d then 1 else 0) ∧ entR M (encB d s ++ t) = s ∧ endR M (encB d s ++ t) = ⟨t, false⟩ := by
  obtain ⟨hn, hz, ⟨tn, ht, htl⟩, ⟨cn, hc, hcl⟩, ⟨rn, hr, hrl⟩, ⟨kn, hk, hkl⟩, ⟨en, he, hel⟩, hll, hdl⟩ := wr_canE h
  have e0 : encB d s ++ t = big 1 (if d then 1 else 0) ++ (partB 1 s.n ++ (big 2 tn ++ (big 2 cn ++ ((if d then [] else tailB s) ++ t)))) := by
    cases d <;> simp [encB, headB, bigs, big, ht, hc]
  generalize hX : (if d then [] else tailB s) ++ t = X at e0
  obtain ⟨a1, a2⟩ := num_can M 1 (if d then 1 else 0) (partB 1 s.n ++ (big 2 tn ++ (big 2 cn ++ X))) (by split <;> decide)
  obtain ⟨b1, b2⟩ := prt_can M 1 s.n (big 2 tn ++ (big 2 cn ++ X)) (by simp; omega)
  obtain ⟨c1, c2⟩ := num_can M 2 tn (big 2 cn ++ X) (by simp; omega)
  obtain ⟨d1, d2⟩ := num_can M 2 cn X (by simp; omega)
  have hA : rA M (encB d s ++ t) = ⟨partB 1 s.n ++ (big 2 tn ++ (big 2 cn ++ X)), false⟩ := by unfold rA; rw [e0, a2]
  have hB : rB M (encB d s ++ t) = ⟨big 2 tn ++ (big 2 cn ++ X), false⟩ := by unfold rB; rw [hA, b2]
  have hC : rC M (encB d s ++ t) = ⟨big 2 cn ++ X, false⟩ := by unfold rC; rw [hB, c2]
  have hD : rD M (encB d s ++ t) = ⟨X, false⟩ := by unfold rD; rw [hC, d2]
  have hdo : doesN M (encB d s ++ t) = (if d then 1 else 0) := by unfold doesN; rw [e0, a1]
  refine ⟨hdo, ?_⟩
  cases d with
  | true =>
    have hs : s = keyS s := by simp only [canE, if_true, Bool.and_eq_true] at h; exact sameS_iff.1 h.2
    simp at hX
    subst hX
    unfold entR endR
    rw [hdo]
    simp only [if_true]
    refine ⟨?_, hD⟩
    unfold keyR
    rw [hA, hB, hC, b1, c1, d1, ← ht, ← hc]
    exact hs.symm
  | false =>
    have hX2 : X = big 1 rn ++ (big 1 kn ++ (big 8 en ++ (partB 1 s.z ++ (big 2 s.ds.length ++ (partsB 2 s.ds ++ t))))) := by
      rw [← hX]; simp [tailB, bigs, hr, hk, he]
    obtain ⟨f1, f2⟩ := num_can M 1 rn (big 1 kn ++ (big 8 en ++ (partB 1 s.z ++ (big 2 s.ds.length ++ (partsB 2 s.ds ++ t))))) (by simp; omega)
    obtain ⟨g1, g2⟩ := num_can M 1 kn (big 8 en ++ (partB 1 s.z ++ (big 2 s.ds.length ++ (partsB 2 s.ds ++ t)))) (by simp; omega)
    obtain ⟨i1, i2⟩ := M.canE en (partB 1 s.z ++ (big 2 s.ds.length ++ (partsB 2 s.ds ++ t))) hel
    obtain ⟨j1, j2⟩ := prt_can M 1 s.z (big 2 s.ds.length ++ (partsB 2 s.ds ++ t)) (by simp; omega)
    obtain ⟨k1, k2⟩ := num_can M 2 s.ds.length (partsB 2 s.ds ++ t) (by simp; omega)
    have l1 := lop_can M s.ds t [] hdl
    rw [hX2] at hD
    have hE : rE M (encB false s ++ t) = ⟨big 1 kn ++ (big 8 en ++ (partB 1 s.z ++ (big 2 s.ds.length ++ (partsB 2 s.ds ++ t)))), false⟩ := by unfold rE; rw [hD, f2]
    have hF : rF M (encB false s ++ t) = ⟨big 8 en ++ (partB 1 s.z ++ (big 2 s.ds.length ++ (partsB 2 s.ds ++ t))), false⟩ := by unfold rF; rw [hE, g2]
    have hG : rG M (encB false s ++ t) = ⟨partB 1 s.z ++ (big 2 s.ds.length ++ (partsB 2 s.ds ++ t)), false⟩ := by unfold rG; rw [hF, i2]
    have hH : rH M (encB false s ++ t) = ⟨big 2 s.ds.length ++ (partsB 2 s.ds ++ t), false⟩ := by unfold rH; rw [hG, j2]
    have hI : rI M (encB false s ++ t) = ⟨partsB 2 s.ds ++ t, false⟩ := by unfold rI; rw [hH, k2]
    have hL : lastL M (encB false s ++ t) = (s.ds, ⟨t, false⟩) := by unfold lastL; rw [hH, hI, k1, l1]; simp
    unfold entR endR
    rw [hdo]
    simp only [Bool.false_eq_true, if_false, Nat.zero_ne_one]
    refine ⟨?_, by rw [hL]⟩
    unfold setR
    rw [hA, hB, hC, hD, hE, hF, hG, hL, b1, c1, d1, f1, g1, i1, j1, ← ht, ← hc, ← hr, ← hk, ← he]
theorem no_can {d : Bool} {s : St} (h : canE d s = true) : noR M (encB d s) = false ∧ decide (doesN M (encB d s) = 1) = d ∧ entR M (encB d s) = s := by
  have h1 := read_can M h []
  rw [List.append_nil] at h1
  obtain ⟨h1, h2, h3⟩ := h1
  unfold noR
  rw [h1, h2, h3]
  cases d <;> simp [h]
/-- What is read is an entry's bytes. -/
theorem read_back {b : Bs} (h : noR M b = false) : canE (decide (doesN M b = 1)) (entR M b) = true ∧ encB (decide (doesN M b = 1)) (entR M b) = b := by
  unfold noR at h
  simp only [Bool.or_eq_false_iff, Bool.not_eq_false'] at h
  obtain ⟨h1, h2, h3, h4⟩ := h
  refine ⟨h4, ?_⟩
  have hl : (endR M b).l = [] := by
    cases he : (endR M b).l with
    | nil => rfl
    | cons x t => rw [he] at h3; simp at h3
  have h1' : doesN M b ≤ 1 := by simpa using h1
  have key : (rD M b).sh = false → b = big 1 (doesN M b) ++ (partB 1 (prt M (rA M b) 1) ++ (big 2 (num M (rB M b) 2) ++ (big 2 (num M (rC M b) 2) ++ (rD M b).l))) := by
    intro hD
    obtain ⟨hC, c1, c2⟩ := num_good M hD
    obtain ⟨hB, b1, b2⟩ := num_good M hC
    obtain ⟨hA, a1, a2, a3⟩ := prt_good M hB
    obtain ⟨_, z1, z2⟩ := num_good M hA
    have e1 : (rC M b).l = big 2 (num M (rC M b) 2) ++ (rD M b).l := c1
    have e2 : (rB M b).l = big 2 (num M (rB M b) 2) ++ (rC M b).l := b1
    have e3 : (rA M b).l = big 1 (prt M (rA M b) 1).length ++ (prt M (rA M b) 1 ++ (rB M b).l) := a1
    have e4 : b = big 1 (doesN M b) ++ (rA M b).l := z1
    rw [e1] at e2
    rw [e2] at e3
    rw [e3] at e4
    simpa [partB] using e4
  by_cases hd : doesN M b = 1
  · have hs : endR M b = rD M b := by unfold endR; rw [if_pos hd]
    have he : entR M b = keyR M b := by unfold entR; rw [if_pos hd]
    rw [hs] at h2 hl
    have k := key h2
    rw [hl, hd] at k
    rw [he, decide_eq_true hd]
    refine Eq.trans ?_ k.symm
    simp [encB, headB, bigs, keyR, big]
  · have hd0 : doesN M b = 0 := by omega
    have hs : endR M b = (lastL M b).2 := by unfold endR; rw [if_neg hd]
    have he : entR M b = setR M b := by unfold entR; rw [if_neg hd]
    rw [hs] at h2 hl
    rw [he, decide_eq_false hd] at h4 ⊢
    obtain ⟨hI, L, l1, l2, l3⟩ := lop_good M _ _ _ h2
    obtain ⟨hH, i1, i2⟩ := num_good M hI
    obtain ⟨hG, g1, g2, g3⟩ := prt_good M hH
    have hex : canTimeS (setR M b) = true := by
      have : canS (setR M b) = true := h4
      simp [canS] at this
      exact this.2.1
    simp [canTimeS, setR] at hex
    obtain ⟨en, ee, eel, hF, f1⟩ := M.goodE _ hG (of_decide_eq_true hex.2.2.1) (of_decide_eq_true hex.2.2.2)
    obtain ⟨hE, e1, e2⟩ := num_good M hF
    obtain ⟨hD, d1, d2⟩ := num_good M hE
    have k := key hD
    rw [hd0] at k
    have y1 : (rD M b).l = big 1 (num M (rD M b) 1) ++ (rE M b).l := d1
    have y2 : (rE M b).l = big 1 (num M (rE M b) 1) ++ (rF M b).l := e1
    have y3 : (rF M b).l = big 8 en ++ (rG M b).l := f1
    have y4 : (rG M b).l = big 1 (prt M (rG M b) 1).length ++ (prt M (rG M b) 1 ++ (rH M b).l) := g1
    have y5 : (rH M b).l = big 2 (num M (rH M b) 2) ++ (rI M b).l := i1
    have y6 : (rI M b).l = partsB 2 L ++ [] := by rw [← hl]; exact l3
    have y7 : (lastL M b).1 = L := by unfold lastL; rw [l1]; rfl
    rw [y6, ← l2] at y5
    rw [y5] at y4
    rw [y4] at y3
    rw [y3] at y2
    rw [y2] at y1
    rw [y1] at k
    refine Eq.trans ?_ k.symm
    simp [encB, headB, tailB, bigs, setR, big, partB, y7, ee]
end
/-- Any two readers read the same. -/
theorem same_read (M N : Mach) (b : Bs) : noR M b = noR N b ∧ (noR M b = false → decide (doesN M b = 1) = decide (doesN N b = 1) ∧ entR M b = entR N b) := by
  cases hm : noR M b with
  | false =>
    obtain ⟨h1, h2⟩ := read_back M hm
    obtain ⟨h3, h4, h5⟩ := no_can N h1
    rw [h2] at h3 h4 h5
    exact ⟨h3.symm, fun _ => ⟨h4.symm, h5.symm⟩⟩
  | true =>
    cases hn : noR N b with
    | true => exact ⟨rfl, fun h => by cases h⟩
    | false =>
      obtain ⟨h1, h2⟩ := read_back N hn
      obtain ⟨h3, _, _⟩ := no_can M h1
      rw [h2, hm] at h3
      cases h3
/-- No beginning of an entry's bytes is one, and none with more behind it. -/
theorem no_short (M : Mach) {d : Bool} {s : St} (h : canE d s = true) {b t : Bs} (hb : b ++ t = encB d s) (ht : t ≠ []) : noR M b = true := by
  cases hn : noR M b with
  | true => rfl
  | false =>
    obtain ⟨h1, h2⟩ := read_back M hn
    obtain ⟨_, h3, h4⟩ := read_can M h1 t
    rw [h2, hb] at h3 h4
    have h5 := read_can M h []
    rw [List.append_nil, h4] at h5
    exact absurd (congrArg Rst.l h5.2.2) ht
theorem no_long (M : Mach) {d : Bool} {s : St} (h : canE d s = true) {t : Bs} (ht : t ≠ []) : noR M (encB d s ++ t) = true := by
  obtain ⟨_, _, h3⟩ := read_can M h t
  unfold noR
  rw [h3]
  have : 0 < t.length := List.length_pos_iff.2 ht
  simp [this]
end Go.Proofs.Ytocbcobaodefgaa
