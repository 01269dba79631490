/-
  Requests of HTTP: plain bytes; heads, their lines and fields; a machine that takes a byte at a time.
  Requests of HTTP: plain bytes; how a head comes, byte by byte; the machine.
  Requests of HTTP: plain bytes; the machine by many bytes at once.
-/
import Derived.Test.YtjhameebehkdjaaGreatDoorCkA
import Derived.Test.YtjhameebehkdjaaGreatDoorGa
import Derived.Test.YtjhameebehkdjaaGreatDoorCkO
namespace Go.Proofs.YtjhameebehkdjaaGreatDoor
open Go.RowKit
set_option linter.unusedVariables false
set_option maxRecDepth 100000

/-! Lines and fields. -/
def reqL : Bs := "POST /dns-query HTTP/1.1".toUTF8.data.toList
def msgT : Bs := "application/dns-message".toUTF8.data.toList
def kType : Bs := "content-type".toUTF8.data.toList
def kLen : Bs := "content-length".toUTF8.data.toList
def kEnc : Bs := "transfer-encoding".toUTF8.data.toList
def kConn : Bs := "connection".toUTF8.data.toList
def vChunk : Bs := "chunked".toUTF8.data.toList
def vClose : Bs := "close".toUTF8.data.toList
def vKeep : Bs := "keep-alive".toUTF8.data.toList

def blankH (c : UInt8) : Bool := c == 32 || c == 9
def trimH (l : Bs) : Bs := (l.reverse.dropWhile blankH).reverse.dropWhile blankH
def nameC (c : UInt8) : Bool := decide (97 ≤ c.toNat ∧ c.toNat ≤ 122) || decide (65 ≤ c.toNat ∧ c.toNat ≤ 90) || decide (48 ≤ c.toNat ∧ c.toNat ≤ 57) || c == 45
/-- A line's name and value, if it is a field. -/
def fieldH : Bs → Option (Bs × Bs)
  | s => if s.takeWhile (· != 58) ≠ [] ∧ (s.takeWhile (· != 58)).all nameC ∧ (s.takeWhile (· != 58)).length < s.length
    then some (low (s.takeWhile (· != 58)), low (trimH (s.drop ((s.takeWhile (· != 58)).length + 1)))) else none
def digH (c : UInt8) : Bool := decide (48 ≤ c.toNat ∧ c.toNat ≤ 57)
def valH (s : Bs) : Nat := s.foldl (fun n c => 10 * n + (c.toNat - 48)) 0
/-- The number that a text tells. -/
def decH (s : Bs) : Option Nat := if 1 ≤ s.length ∧ s.length ≤ 5 ∧ s.all digH then some (valH s) else none
def numH (s : Bs) : Option Nat := match decH s with | some n => if n ≤ 65535 then some n else none | none => none
/-- All values of a name. -/
def valuesH (F : List (Bs × Bs)) (k : Bs) : List Bs := (F.filter (fun f => f.1 == k)).map (·.2)
/-- What fields say: is it kept; the length, or chunks. -/
def sayH (F : List (Bs × Bs)) : Option (Bool × Option Nat) :=
  if valuesH F kType = [msgT] ∧ (valuesH F kLen).length + (valuesH F kEnc).length = 1 ∧ (valuesH F kConn = [] ∨ valuesH F kConn = [vClose] ∨ valuesH F kConn = [vKeep]) then
    match valuesH F kEnc, valuesH F kLen with
    | [v], _ => if v = vChunk then some (valuesH F kConn != [vClose], none) else none
    | _, [v] => (numH v).map fun n => (valuesH F kConn != [vClose], some n)
    | _, _ => none
  else none
/-- What lines say. -/
def readL (L : List Bs) : Option (Bool × Option Nat) :=
  match L with
  | [] => none
  | l :: r => if l = reqL then (r.mapM fieldH).bind sayH else none

/-! As the program reads fields: one behind the other. -/
structure Hd where
  types : Nat
  lengths : Nat
  conns : Nat
  size : Nat
  chunked : Bool
  closes : Bool
def takeHd (h : Hd) (k v : Bs) : Option Hd :=
  if k = kType then (if v = msgT then some { h with types := h.types + 1 } else none)
  else if k = kConn then (if v = vClose then some { h with conns := h.conns + 1, closes := true } else if v = vKeep then some { h with conns := h.conns + 1, closes := false } else none)
  else if k = kEnc then (if v = vChunk then some { h with chunked := true, lengths := h.lengths + 1 } else none)
  else if k = kLen then (if h.chunked then some { h with lengths := h.lengths + 1 } else (numH v).map fun n => { h with lengths := h.lengths + 1, size := n })
  else some h
def foldHd : Hd → List Bs → Option Hd
  | h, [] => some h
  | h, l :: r => (fieldH l).bind fun f => (takeHd h f.1 f.2).bind fun h => foldHd h r
def hd0 : Hd := ⟨0, 0, 0, 0, false, false⟩
def okHd (h : Hd) : Bool := h.types == 1 && h.lengths == 1 && decide (h.conns ≤ 1)

theorem keys_ne : kType ≠ kConn ∧ kType ≠ kEnc ∧ kType ≠ kLen ∧ kConn ≠ kEnc ∧ kConn ≠ kLen ∧ kEnc ≠ kLen ∧ vClose ≠ vKeep := by decide
/-- What the counts say of the fields ahead. -/
structure HdRel (h : Hd) (F : List (Bs × Bs)) : Prop where
  types : h.types = (valuesH F kType).length
  allT : ∀ v ∈ valuesH F kType, v = msgT
  lengths : h.lengths = (valuesH F kLen).length + (valuesH F kEnc).length
  allE : ∀ v ∈ valuesH F kEnc, v = vChunk
  chunked : h.chunked = !(valuesH F kEnc).isEmpty
  size : h.chunked = false → ∀ v, valuesH F kLen = [v] → numH v = some h.size
  conns : h.conns = (valuesH F kConn).length
  allC : ∀ v ∈ valuesH F kConn, v = vClose ∨ v = vKeep
  closes : ∀ v, valuesH F kConn = [v] → h.closes = (v == vClose)
  noC : valuesH F kConn = [] → h.closes = false
theorem values_snoc (F : List (Bs × Bs)) (f : Bs × Bs) (k : Bs) : valuesH (F ++ [f]) k = valuesH F k ++ (if f.1 = k then [f.2] else []) := by
  unfold valuesH
  rw [List.filter_append, List.map_append]
  by_cases h : f.1 = k
  · simp [h]
  · simp [h]
theorem values_other {F : List (Bs × Bs)} {f : Bs × Bs} {k : Bs} (h : f.1 ≠ k) : valuesH (F ++ [f]) k = valuesH F k := by rw [values_snoc, if_neg h, List.append_nil]
theorem values_same {F : List (Bs × Bs)} {f : Bs × Bs} {k : Bs} (h : f.1 = k) : valuesH (F ++ [f]) k = valuesH F k ++ [f.2] := by rw [values_snoc, if_pos h]
theorem snoc_one {α : Type} {l : List α} {a b : α} (h : l ++ [a] = [b]) : l = [] ∧ a = b := by
  cases l with
  | nil => exact ⟨rfl, by simpa using h⟩
  | cons x l => simp at h
theorem HdRel.step {h h' : Hd} {F : List (Bs × Bs)} {f : Bs × Bs} (r : HdRel h F) (ht : takeHd h f.1 f.2 = some h') : HdRel h' (F ++ [f]) := by
  obtain ⟨n1, n2, n3, n4, n5, n6, n7⟩ := keys_ne
  obtain ⟨r1, r2, r3, r4, r5, r6, r7, r8, r9, r10⟩ := r
  unfold takeHd at ht
  by_cases h1 : f.1 = kType
  · rw [if_pos h1] at ht
    by_cases hv : f.2 = msgT
    · rw [if_pos hv] at ht
      injection ht with ht
      subst ht
      have e1 : f.1 ≠ kConn := by rw [h1]; exact n1
      have e2 : f.1 ≠ kEnc := by rw [h1]; exact n2
      have e3 : f.1 ≠ kLen := by rw [h1]; exact n3
      constructor <;> simp only [values_other e1, values_other e2, values_other e3, values_same h1]
      all_goals first
        | assumption
        | (simp; omega)
        | (intro v hm; rcases List.mem_append.1 hm with hm | hm; exact r2 v hm; rw [List.mem_singleton.1 hm]; exact hv)
    · rw [if_neg hv] at ht; cases ht
  rw [if_neg h1] at ht
  by_cases h2 : f.1 = kConn
  · rw [if_pos h2] at ht
    have e2 : f.1 ≠ kEnc := by rw [h2]; exact n4
    have e3 : f.1 ≠ kLen := by rw [h2]; exact n5
    by_cases hv : f.2 = vClose
    · rw [if_pos hv] at ht
      injection ht with ht
      subst ht
      constructor <;> simp only [values_other h1, values_other e2, values_other e3, values_same h2]
      all_goals first
        | assumption
        | (simp; omega)
        | (intro v hm; rcases List.mem_append.1 hm with hm | hm; exact r8 v hm; rw [List.mem_singleton.1 hm]; exact .inl hv)
        | (intro v hm; obtain ⟨_, hm⟩ := snoc_one hm; rw [← hm, hv]; simp)
        | (intro hm; simp at hm)
    · rw [if_neg hv] at ht
      by_cases hk : f.2 = vKeep
      · rw [if_pos hk] at ht
        injection ht with ht
        subst ht
        constructor <;> simp only [values_other h1, values_other e2, values_other e3, values_same h2]
        all_goals first
          | assumption
          | (simp; omega)
          | (intro v hm; rcases List.mem_append.1 hm with hm | hm; exact r8 v hm; rw [List.mem_singleton.1 hm]; exact .inr hk)
          | (intro v hm; obtain ⟨_, hm⟩ := snoc_one hm; rw [← hm]; simp [hv])
          | (intro hm; simp at hm)
      · rw [if_neg hk] at ht; cases ht
  rw [if_neg h2] at ht
  by_cases h3 : f.1 = kEnc
  · rw [if_pos h3] at ht
    have e3 : f.1 ≠ kLen := by rw [h3]; exact n6
    by_cases hv : f.2 = vChunk
    · rw [if_pos hv] at ht
      injection ht with ht
      subst ht
      constructor <;> simp only [values_other h1, values_other h2, values_other e3, values_same h3]
      all_goals first
        | assumption
        | (simp; done)
        | (simp; omega)
        | (intro v hm; rcases List.mem_append.1 hm with hm | hm; exact r4 v hm; rw [List.mem_singleton.1 hm]; exact hv)
        | (intro hm; cases hm)
    · rw [if_neg hv] at ht; cases ht
  rw [if_neg h3] at ht
  by_cases h4 : f.1 = kLen
  · rw [if_pos h4] at ht
    by_cases hc : h.chunked = true
    · rw [if_pos hc] at ht
      injection ht with ht
      subst ht
      constructor <;> simp only [values_other h1, values_other h2, values_other h3, values_same h4]
      all_goals first
        | assumption
        | (simp; omega)
        | (intro hm; rw [hc] at hm; cases hm)
    · rw [if_neg hc] at ht
      cases hn : numH f.2 with
      | none => rw [hn] at ht; cases ht
      | some n =>
        rw [hn] at ht
        injection ht with ht
        subst ht
        constructor <;> simp only [values_other h1, values_other h2, values_other h3, values_same h4]
        all_goals first
          | assumption
          | (simp; omega)
          | (intro _ v hm; obtain ⟨_, hm⟩ := snoc_one hm; rw [← hm]; exact hn)
  rw [if_neg h4] at ht
  injection ht with ht
  subst ht
  constructor <;> simp only [values_other h1, values_other h2, values_other h3, values_other h4]
  all_goals assumption
theorem hdRel0 : HdRel hd0 [] := by
  constructor <;> simp [valuesH, hd0]
/-- A field that may not be spoils all. -/
theorem say_bad {h : Hd} {F : List (Bs × Bs)} {f : Bs × Bs} (R : List (Bs × Bs)) (r : HdRel h F) (ht : takeHd h f.1 f.2 = none) : sayH (F ++ f :: R) = none := by
  have ev : ∀ k, valuesH (F ++ f :: R) k = valuesH F k ++ (if f.1 = k then [f.2] else []) ++ valuesH R k := fun k => by
    rw [← values_snoc]
    unfold valuesH
    rw [← List.map_append, ← List.filter_append]
    simp
  obtain ⟨n1, n2, n3, n4, n5, n6, n7⟩ := keys_ne
  have one : ∀ {a b : List Bs} {x y : Bs}, a ++ [x] ++ b = [y] → x = y := fun {a b x y} h => by
    cases a with
    | nil => simp at h; exact h.1
    | cons z a => simp at h
  unfold takeHd at ht
  unfold sayH
  split
  · rename_i hcond
    obtain ⟨c1, c2, c3⟩ := hcond
    by_cases h1 : f.1 = kType
    · rw [if_pos h1] at ht
      rw [ev, if_pos h1] at c1
      rw [if_pos (one c1)] at ht
      cases ht
    rw [if_neg h1] at ht
    by_cases h2 : f.1 = kConn
    · rw [if_pos h2] at ht
      rw [ev, if_pos h2] at c3
      rcases c3 with c3 | c3 | c3
      · simp at c3
      · rw [if_pos (one c3)] at ht; cases ht
      · by_cases hv : f.2 = vClose
        · rw [if_pos hv] at ht; cases ht
        · rw [if_neg hv, if_pos (one c3)] at ht; cases ht
    rw [if_neg h2] at ht
    by_cases h3 : f.1 = kEnc
    · rw [if_pos h3] at ht
      by_cases hv : f.2 = vChunk
      · rw [if_pos hv] at ht; cases ht
      · rw [ev kEnc, if_pos h3] at c2 ⊢
        simp only [List.length_append, List.length_singleton] at c2
        have ea : valuesH F kEnc = [] := List.length_eq_zero_iff.1 (by omega)
        have eb : valuesH R kEnc = [] := List.length_eq_zero_iff.1 (by omega)
        rw [ea, eb]
        simp [hv]
    rw [if_neg h3] at ht
    by_cases h4 : f.1 = kLen
    · rw [if_pos h4] at ht
      by_cases hc : h.chunked = true
      · rw [if_pos hc] at ht; cases ht
      · rw [if_neg hc] at ht
        have hn : numH f.2 = none := by
          cases hn : numH f.2 with
          | none => rfl
          | some n => rw [hn] at ht; cases ht
        rw [ev kLen, if_pos h4] at c2 ⊢
        simp only [List.length_append, List.length_singleton] at c2
        have ea : valuesH F kLen = [] := List.length_eq_zero_iff.1 (by omega)
        have eb : valuesH R kLen = [] := List.length_eq_zero_iff.1 (by omega)
        have ec : valuesH (F ++ f :: R) kEnc = [] := List.length_eq_zero_iff.1 (by omega)
        rw [ea, eb, ec]
        simp [hn]
    rw [if_neg h4] at ht
    cases ht
  · rfl
theorem fold_say : ∀ (L : List Bs) (h : Hd) (F : List (Bs × Bs)), HdRel h F →
    (∀ h', foldHd h L = some h' → ∃ G, L.mapM fieldH = some G ∧ HdRel h' (F ++ G)) ∧ (foldHd h L = none → ∀ G, L.mapM fieldH = some G → sayH (F ++ G) = none)
  | [], h, F, r => ⟨(fun h' e => ⟨[], rfl, by injection e with e; subst e; simpa using r⟩), (fun e => by cases e)⟩
  | l :: L, h, F, r => by
    simp only [foldHd, List.mapM_cons]
    cases hf : fieldH l with
    | none => exact ⟨(fun h' e => by cases e), (fun _ G e => by cases e)⟩
    | some f =>
      simp only [Option.bind_some]
      cases ht : takeHd h f.1 f.2 with
      | none =>
        refine ⟨(fun h' e => by cases e), fun _ G e => ?_⟩
        cases hm : L.mapM fieldH with
        | none => rw [hm] at e; cases e
        | some R =>
          rw [hm] at e
          injection e with e
          rw [← e]
          exact say_bad R r ht
      | some h1 =>
        simp only [Option.bind_some]
        obtain ⟨i1, i2⟩ := fold_say L h1 (F ++ [f]) (r.step ht)
        refine ⟨fun h' e => ?_, fun e G hG => ?_⟩
        · obtain ⟨G, g1, g2⟩ := i1 h' e
          exact ⟨f :: G, by rw [g1]; rfl, by simpa using g2⟩
        · cases hm : L.mapM fieldH with
          | none => rw [hm] at hG; cases hG
          | some R =>
            rw [hm] at hG
            injection hG with hG
            rw [← hG]
            have := i2 e R hm
            simpa using this
theorem HdRel.say {h : Hd} {F : List (Bs × Bs)} (r : HdRel h F) : sayH F = if okHd h then some (!h.closes, if h.chunked then none else some h.size) else none := by
  obtain ⟨r1, r2, r3, r4, r5, r6, r7, r8, r9, r10⟩ := r
  unfold sayH
  by_cases hk : okHd h = true
  · rw [if_pos hk]
    simp only [okHd, Bool.and_eq_true, beq_iff_eq, decide_eq_true_eq] at hk
    obtain ⟨⟨k1, k2⟩, k3⟩ := hk
    have t1 : valuesH F kType = [msgT] := by
      obtain ⟨v, hv⟩ := List.length_eq_one_iff.1 (show (valuesH F kType).length = 1 by omega)
      rw [hv, r2 v (by rw [hv]; simp)]
    have c1 : (valuesH F kConn = [] ∨ valuesH F kConn = [vClose] ∨ valuesH F kConn = [vKeep]) ∧ (valuesH F kConn != [vClose]) = !h.closes := by
      match hc : valuesH F kConn with
      | [] => exact ⟨.inl rfl, by rw [r10 hc]; decide⟩
      | [v] =>
        have e := r9 v hc
        rcases r8 v (by rw [hc]; simp) with rfl | rfl
        · exact ⟨.inr (.inl rfl), by rw [e]; decide⟩
        · exact ⟨.inr (.inr rfl), by rw [e]; decide⟩
      | _ :: _ :: _ => rw [hc] at r7; simp at r7; omega
    rw [if_pos ⟨t1, by omega, c1.1⟩, c1.2]
    match he : valuesH F kEnc, hl : valuesH F kLen with
    | [v], _ =>
      rw [he] at r5
      simp only [r5, List.isEmpty_cons, Bool.not_false, if_true]
      rw [if_pos (r4 v (by rw [he]; simp))]
    | [], [v] =>
      rw [he] at r5
      simp only [r5, List.isEmpty_nil, Bool.not_true, Bool.false_eq_true, if_false]
      rw [r6 (by rw [r5]; rfl) v hl]
      rfl
    | [], [] => rw [he, hl] at r3; simp at r3; omega
    | [], _ :: _ :: _ => rw [he, hl] at r3; simp at r3; omega
    | _ :: _ :: _, _ => rw [he] at r3; simp at r3; omega
  · rw [if_neg hk, if_neg]
    rintro ⟨t1, t2, t3⟩
    apply hk
    simp only [okHd, Bool.and_eq_true, beq_iff_eq, decide_eq_true_eq]
    refine ⟨⟨by rw [r1, t1]; rfl, by omega⟩, ?_⟩
    rw [r7]
    rcases t3 with t3 | t3 | t3 <;> rw [t3] <;> simp
/-- As the program has it. -/
theorem readL_fold (l : Bs) (L : List Bs) (h : l = reqL) : readL (l :: L) = (foldHd hd0 L).bind fun h => if okHd h then some (!h.closes, if h.chunked then none else some h.size) else none := by
  unfold readL
  simp only [if_pos h]
  obtain ⟨i1, i2⟩ := fold_say L hd0 [] hdRel0
  cases hf : foldHd hd0 L with
  | none =>
    cases hm : L.mapM fieldH with
    | none => rfl
    | some G => exact i2 hf G hm
  | some h' =>
    obtain ⟨G, g1, g2⟩ := i1 h' hf
    rw [g1]
    exact g2.say
end Go.Proofs.YtjhameebehkdjaaGreatDoor
namespace Go.Proofs.YtjhameebehkdjaaGreatDoor
open Go.RowKit
set_option linter.unusedVariables false
set_option maxRecDepth 100000

/-- A byte of a line. -/
def lineC (c : UInt8) : Bool := decide (32 ≤ c.toNat ∧ c.toNat ≤ 126) || c == 9
/-- May a byte stand behind a head's beginning. -/
def fitH (h : Bs) (c : UInt8) : Bool := if h.getLast? = some 13 then c == 10 else lineC c || c == 13
/-- Does a head end there. -/
def endH (h : Bs) : Bool := h == [13, 10] || [13, 10, 13, 10].isSuffixOf h
/-- Lines, each with its end. -/
def catL (L : List Bs) : Bs := L.flatMap (· ++ [13, 10])
def okLine (l : Bs) : Prop := ∀ c ∈ l, lineC c = true
theorem lineC_ne {c : UInt8} (h : lineC c = true) : c ≠ 13 ∧ c ≠ 10 := by
  constructor <;> (rintro rfl; revert h; decide)
/-- The lines of a head, by its bytes. -/
def linesG : Bs → Bs → List Bs
  | _, [] => []
  | acc, c :: b => if c = 13 then linesG acc b else if c = 10 then acc :: linesG [] b else linesG (acc ++ [c]) b
def linesH (h : Bs) : List Bs := (linesG [] h).dropLast
def readH (h : Bs) : Option (Bool × Option Nat) := readL (linesH h)
theorem linesG_line : ∀ (l acc r : Bs), okLine l → linesG acc (l ++ 13 :: 10 :: r) = (acc ++ l) :: linesG [] r
  | [], acc, r, _ => by simp [linesG]
  | c :: l, acc, r, h => by
    have hc := lineC_ne (h c (by simp))
    rw [List.cons_append, linesG, if_neg hc.1, if_neg hc.2, linesG_line l _ r (fun x hx => h x (by simp [hx]))]
    simp
theorem linesG_cat : ∀ (L : List Bs) (r : Bs), (∀ l ∈ L, okLine l) → linesG [] (catL L ++ r) = L ++ linesG [] r
  | [], r, _ => rfl
  | l :: L, r, h => by
    have : catL (l :: L) ++ r = l ++ 13 :: 10 :: (catL L ++ r) := by simp [catL]
    rw [this, linesG_line l [] _ (h l (by simp)), linesG_cat L r (fun x hx => h x (by simp [hx]))]
    rfl
theorem linesH_cat (L : List Bs) (h : ∀ l ∈ L, okLine l) : linesH (catL L ++ [13, 10]) = L := by
  unfold linesH
  rw [linesG_cat L _ h]
  simp [linesG]
/-- A head that is not whole: whole lines, and what came of the next one. -/
structure HdOk (h : Bs) (L : List Bs) (p : Bs) (cr : Bool) : Prop where
  eq : h = catL L ++ p ++ (if cr then [13] else [])
  lines : ∀ l ∈ L, okLine l ∧ l ≠ []
  part : okLine p
theorem HdOk.nil : HdOk [] [] [] false := ⟨rfl, by simp, by intro c hc; cases hc⟩
theorem catL_snoc (L : List Bs) (p : Bs) : catL (L ++ [p]) = catL L ++ p ++ [13, 10] := by simp [catL]
theorem catL_last {L : List Bs} (h : L ≠ []) : ∃ t, catL L = t ++ [13, 10] := by
  obtain ⟨L', p, rfl⟩ : ∃ L' p, L = L' ++ [p] := ⟨L.dropLast, L.getLast h, (List.dropLast_concat_getLast h).symm⟩
  exact ⟨catL L' ++ p, catL_snoc L' p⟩
theorem HdOk.last {h : Bs} {L : List Bs} {p : Bs} {cr : Bool} (k : HdOk h L p cr) : (h.getLast? = some 13) ↔ cr = true := by
  rw [k.eq]
  cases cr with
  | true => simp
  | false =>
    simp only [Bool.false_eq_true, if_false, List.append_nil, iff_false]
    cases hp : p with
    | cons c r =>
      rw [List.getLast?_append]
      have hne : (c :: r) ≠ [] := by simp
      rw [List.getLast?_eq_some_getLast hne]
      have hm : (c :: r).getLast hne ∈ p := by rw [hp]; exact List.getLast_mem hne
      have := (lineC_ne (k.part _ hm)).1
      simpa using this
    | nil =>
      rw [List.append_nil]
      by_cases hL : L = []
      · subst hL; simp [catL]
      · obtain ⟨t, ht⟩ := catL_last hL
        rw [ht]
        simp
theorem suf4 (a : Bs) (b : Bs) : ([13, 10, 13, 10].isSuffixOf (a ++ b)) = true ↔ ([13, 10, 13, 10] : Bs) <:+ a ++ b := by simp
/-- What a byte that fits makes of it. -/
theorem HdOk.step {h : Bs} {L : List Bs} {p : Bs} {cr : Bool} (k : HdOk h L p cr) {c : UInt8} (hf : fitH h c = true) :
    (cr = true ∧ c = 10 ∧ p = [] ∧ endH (h ++ [c]) = true ∧ h ++ [c] = catL L ++ [13, 10]) ∨
    (cr = true ∧ c = 10 ∧ p ≠ [] ∧ endH (h ++ [c]) = false ∧ HdOk (h ++ [c]) (L ++ [p]) [] false) ∨
    (cr = false ∧ c = 13 ∧ endH (h ++ [c]) = false ∧ HdOk (h ++ [c]) L p true) ∨
    (cr = false ∧ lineC c = true ∧ endH (h ++ [c]) = false ∧ HdOk (h ++ [c]) L (p ++ [c]) false) := by
  have noend : ∀ (x : Bs) (c : UInt8), c ≠ 10 → endH (x ++ [c]) = false := fun x c hc => by
    unfold endH
    rw [Bool.or_eq_false_iff]
    constructor
    · rw [beq_eq_false_iff_ne]
      intro e
      have := congrArg List.getLast? e
      simp at this
      exact hc this
    · rw [← Bool.not_eq_true]
      intro e
      rw [suf4] at e
      obtain ⟨t, ht⟩ := e
      have := congrArg List.getLast? ht
      simp at this
      exact hc this.symm
  unfold fitH at hf
  cases cr with
  | true =>
    rw [if_pos (k.last.2 rfl)] at hf
    have hc : c = 10 := by simpa using hf
    subst hc
    have he : h ++ [10] = catL L ++ p ++ [13, 10] := by rw [k.eq]; simp
    by_cases hp : p = []
    · subst hp
      rw [List.append_nil] at he
      refine .inl ⟨rfl, rfl, rfl, ?_, he⟩
      rw [he]
      unfold endH
      by_cases hL : L = []
      · subst hL; rfl
      · obtain ⟨t, ht⟩ := catL_last hL
        rw [ht, Bool.or_eq_true]
        right
        rw [suf4]
        exact ⟨t, by simp⟩
    · refine .inr (.inl ⟨rfl, rfl, hp, ?_, ⟨by rw [he, catL_snoc]; simp, fun l hl => ?_, by intro c hc; cases hc⟩⟩)
      · rw [he]
        obtain ⟨q, x, hq⟩ : ∃ q x, p = q ++ [x] := ⟨p.dropLast, p.getLast hp, (List.dropLast_concat_getLast hp).symm⟩
        have hx := lineC_ne (k.part x (by rw [hq]; simp))
        unfold endH
        rw [Bool.or_eq_false_iff]
        constructor
        · rw [beq_eq_false_iff_ne]
          intro e
          have := congrArg List.length e
          rw [hq] at this
          simp at this
          omega
        · rw [← Bool.not_eq_true]
          intro e
          rw [suf4] at e
          obtain ⟨t, ht⟩ := e
          rw [hq, show t ++ [13, 10, 13, 10] = (t ++ [13]) ++ [10] ++ [13, 10] by simp, show catL L ++ (q ++ [x]) ++ [13, 10] = (catL L ++ q) ++ [x] ++ [13, 10] by simp] at ht
          have h2 := List.append_cancel_right ht
          have := congrArg List.getLast? h2
          simp at this
          exact hx.2 this.symm
      · rcases List.mem_append.1 hl with hl | hl
        · exact k.lines l hl
        · rw [List.mem_singleton.1 hl]; exact ⟨k.part, hp⟩
  | false =>
    rw [if_neg (fun e => by have := k.last.1 e; cases this)] at hf
    have he : h = catL L ++ p := by rw [k.eq]; simp
    by_cases hl : lineC c = true
    · refine .inr (.inr (.inr ⟨rfl, hl, noend _ _ (lineC_ne hl).2, ⟨by rw [he]; simp, k.lines, fun x hx => ?_⟩⟩))
      rcases List.mem_append.1 hx with hx | hx
      · exact k.part x hx
      · rw [List.mem_singleton.1 hx]; exact hl
    · have hc : c = 13 := by
        rw [Bool.or_eq_true] at hf
        rcases hf with hf | hf
        · exact absurd hf hl
        · simpa using hf
      subst hc
      exact .inr (.inr (.inl ⟨rfl, rfl, noend _ _ (by decide), ⟨by rw [he]; simp, k.lines, k.part⟩⟩))

/-! The machine. -/
inductive Hs where
  | dead
  | hd (h : Bs)
  | cnt (k : Bool) (d : Bs) (n : Nat)
  | chk (k : Bool) (s : Ck)
abbrev Rq := Bs × Bool
abbrev Tk := Hs × List Rq × Bool
/-- Behind a body. -/
def nextH (k : Bool) (d : Bs) : Tk := (if k then .hd [] else .dead, [(d, k)], false)
def badH : Tk := (.dead, [], true)
/-- Behind a head. -/
def behindH : Option (Bool × Option Nat) → Tk
  | none => badH
  | some (k, none) => (.chk k (newC 65535), [], false)
  | some (k, some n) => if n = 0 then nextH k [] else (.cnt k [] n, [], false)
def stepH : Hs → UInt8 → Tk
  | .dead, _ => (.dead, [], false)
  | .hd h, c => if fitH h c then (if endH (h ++ [c]) then behindH (readH (h ++ [c])) else if h.length + 1 = 2000 then badH else (.hd (h ++ [c]), [], false)) else badH
  | .cnt k d n, c => if n ≤ 1 then nextH k (d ++ [c]) else (.cnt k (d ++ [c]) (n - 1), [], false)
  | .chk k s, c => if (stepC s c).1 = 0 then (if (stepC s c).2.whole then nextH k (stepC s c).2.body else (.chk k (stepC s c).2, [], false)) else badH
def thenH (a : Tk) (b : Tk) : Tk := (b.1, a.2.1 ++ b.2.1, a.2.2 || b.2.2)
def goH : Hs → Bs → Tk
  | s, [] => (s, [], false)
  | s, c :: b => thenH (stepH s c) (goH (stepH s c).1 b)
theorem thenH_assoc (a b c : Tk) : thenH (thenH a b) c = thenH a (thenH b c) := by simp [thenH, Bool.or_assoc]
theorem goH_app : ∀ (a b : Bs) (s : Hs), goH s (a ++ b) = thenH (goH s a) (goH (goH s a).1 b)
  | [], b, s => by simp [goH, thenH]
  | c :: a, b, s => by
    rw [List.cons_append, goH, goH_app a b, goH, thenH_assoc]
    rfl
theorem goH_dead : ∀ b : Bs, goH .dead b = (.dead, [], false)
  | [] => rfl
  | c :: b => by rw [goH]; simp [stepH, goH_dead b, thenH]
theorem bad_then (s : Hs) (b : Bs) (h : s = .dead) (a : Tk) : thenH a (goH s b) = (.dead, a.2.1, a.2.2) := by subst h; rw [goH_dead]; simp [thenH]
end Go.Proofs.YtjhameebehkdjaaGreatDoor
namespace Go.Proofs.YtjhameebehkdjaaGreatDoor
open Go.RowKit
set_option linter.unusedVariables false
set_option maxRecDepth 100000

theorem thenH_nil (a : Tk) : thenH ((a.1, [], false) : Tk) a = a := by simp [thenH]
theorem thenH_eq (s : Hs) (a : Tk) : thenH ((s, [], false) : Tk) a = a := by simp [thenH]
theorem go_cnt : ∀ (b : Bs) (k : Bool) (d : Bs) (n : Nat), 0 < n → goH (.cnt k d n) b = if b.length < n then (.cnt k (d ++ b) (n - b.length), [], false) else thenH (nextH k (d ++ b.take n)) (goH (nextH k (d ++ b.take n)).1 (b.drop n))
  | [], k, d, n, hn => by simp [goH, hn]
  | c :: b, k, d, n, hn => by
    rw [goH]
    by_cases h1 : n ≤ 1
    · have : n = 1 := by omega
      subst this
      simp [stepH]
    · have e : stepH (.cnt k d n) c = (.cnt k (d ++ [c]) (n - 1), [], false) := by simp [stepH, h1]
      rw [e, thenH_eq]
      simp only
      rw [go_cnt b k (d ++ [c]) (n - 1) (by omega)]
      by_cases h2 : b.length < n - 1
      · rw [if_pos h2, if_pos (by simp; omega)]
        have : n - 1 - b.length = n - (c :: b).length := by simp; omega
        rw [this]
        simp
      · rw [if_neg h2, if_neg (by simp; omega)]
        obtain ⟨m, rfl⟩ : ∃ m, n = m + 1 := ⟨n - 1, by omega⟩
        simp
/-- What a feed of chunks makes of it. -/
def chkH (k : Bool) (r : (Nat × Bool × Nat) × Ck) (b : Bs) : Tk :=
  if r.1.2.2 ≠ 0 then badH else if r.1.2.1 then thenH (nextH k r.2.body) (goH (nextH k r.2.body).1 (b.drop r.1.1)) else (.chk k r.2, [], false)
theorem go_chk_aux : ∀ (b : Bs) (k : Bool) (s : Ck) (i : Nat), s.whole = false → goH (.chk k s) b = chkH k ((((goC i s b).1.1 - i), (goC i s b).1.2.1, (goC i s b).1.2.2), (goC i s b).2) b ∧ ((goC i s b).1.2.2 = 0 → i ≤ (goC i s b).1.1 ∧ (goC i s b).1.1 ≤ i + b.length)
  | [], k, s, i, hw => by
    simp [goH, goC, chkH, hw]
  | c :: b, k, s, i, hw => by
    rw [goH, goC, hw]
    simp only [Bool.false_eq_true, if_false]
    by_cases h0 : (stepC s c).1 = 0
    · rw [if_pos h0]
      by_cases hh : (stepC s c).2.whole = true
      · rw [goC_whole hh]
        have e : stepH (.chk k s) c = nextH k (stepC s c).2.body := by simp [stepH, h0, hh]
        rw [e]
        simp [chkH]
      · have hf : (stepC s c).2.whole = false := by simpa using hh
        have e : stepH (.chk k s) c = (.chk k (stepC s c).2, [], false) := by simp [stepH, h0, hf]
        obtain ⟨i1, i2⟩ := go_chk_aux b k (stepC s c).2 (i + 1) hf
        rw [e, thenH_eq]
        simp only
        rw [i1]
        refine ⟨?_, fun h => by have := i2 h; simp; omega⟩
        unfold chkH
        simp only
        split
        · rfl
        · rename_i h
          have := i2 (by simpa using h)
          split
          · have e : (c :: b).drop ((goC (i + 1) (stepC s c).2 b).1.1 - i) = b.drop ((goC (i + 1) (stepC s c).2 b).1.1 - (i + 1)) := by
              rw [show (goC (i + 1) (stepC s c).2 b).1.1 - i = ((goC (i + 1) (stepC s c).2 b).1.1 - (i + 1)) + 1 by omega]
              rfl
            rw [e]
          · rfl
    · rw [if_neg h0]
      have e : stepH (.chk k s) c = badH := by simp [stepH, h0]
      rw [e]
      refine ⟨?_, fun h => absurd h h0⟩
      simp only [chkH, ne_eq, h0, not_false_eq_true, if_true]
      exact bad_then _ b rfl badH
theorem go_chk {k : Bool} {s : Ck} {b : Bs} (hw : s.whole = false) (hf : s.fault = 0) : goH (.chk k s) b = chkH k (feedC s b) b ∧ ((feedC s b).1.2.2 = 0 → (feedC s b).1.1 ≤ b.length) := by
  unfold feedC
  rw [if_pos hf]
  obtain ⟨h1, h2⟩ := go_chk_aux b k s 0 hw
  rw [h1]
  exact ⟨by simp, fun h => by have := (h2 h).2; omega⟩
/-- What goes on behind a feed that is not whole. -/
theorem goC_more : ∀ (b : Bs) (i : Nat) (s : Ck), s.fault = 0 → (goC i s b).1.2.2 = 0 → (goC i s b).1.2.1 = false → (goC i s b).2.whole = false ∧ (goC i s b).2.fault = 0 ∧ (goC i s b).1.1 = i + b.length
  | [], i, s, hf, _, hw => ⟨hw, hf, rfl⟩
  | c :: b, i, s, hf, he, hw => by
    rw [goC] at he hw ⊢
    by_cases h1 : s.whole = true
    · rw [if_pos h1] at hw; cases hw
    · rw [if_neg h1] at he hw ⊢
      by_cases h0 : (stepC s c).1 = 0
      · rw [if_pos h0] at he hw ⊢
        obtain ⟨a1, a2, a3⟩ := goC_more b (i + 1) _ (by rw [stepC_fault]; exact hf) he hw
        exact ⟨a1, a2, by rw [a3]; simp; omega⟩
      · rw [if_neg h0] at he
        exact absurd he h0
theorem feedC_more {s : Ck} {b : Bs} (hf : s.fault = 0) (he : (feedC s b).1.2.2 = 0) (hw : (feedC s b).1.2.1 = false) : (feedC s b).2.whole = false ∧ (feedC s b).2.fault = 0 ∧ (feedC s b).1.1 = b.length := by
  unfold feedC at *
  rw [if_pos hf] at *
  have := goC_more b 0 s hf he hw
  simpa using this
theorem goC_err0 : ∀ (b : Bs) (i : Nat) (s : Ck), (goC i s b).1.2.2 ≠ 0 → (goC i s b).1.1 = 0
  | [], i, s, h => by simp [goC] at h
  | c :: b, i, s, h => by
    rw [goC] at h ⊢
    split
    · rename_i hw; rw [if_pos hw] at h; simp at h
    · rename_i hw
      rw [if_neg hw] at h
      split
      · rename_i h0; rw [if_pos h0] at h; exact goC_err0 b _ _ h
      · rfl
/-- A head's beginning is whole: what came. -/
structure HsOk (s : Hs) : Prop where
  hd : ∀ h, s = .hd h → h.length < 2000 ∧ ∃ L p cr, HdOk h L p cr
  cnt : ∀ k d n, s = .cnt k d n → 0 < n ∧ d.length + n ≤ 65535
  chk : ∀ k c, s = .chk k c → c.whole = false ∧ c.fault = 0 ∧ CkOk c
end Go.Proofs.YtjhameebehkdjaaGreatDoor
