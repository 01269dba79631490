/-
  Data of types, as lists of bytes: a name at the beginning, texts, options, an SOA's data. No program, no memory.
  The document's First, texts, options, four (layer 3).
  The walks of the landed rdata, as plain lists: where a name's walk stops, texts and options from a place on. No program, no memory.
  The landed rdata: areTexts, areOptions, shape, firstName.
  A region that draws its order: quiet operations and calls ahead (in a class C of worlds), a forced tail behind: one walk of the text's order serves every order, and the tail is walked in any world of the class. (The library has the two halves: Derived/Deep/Quiet.lean, no tail; Derived/StillTail.lean, a tail behind operations that leave the very world. This joins them.)
  The document's SOA (layer 3).
  The document's Can for data (layer 3).
-/
import Derived.Test.YtbeggckkgaoacaaGa
import Derived.Test.YtbeggckkgaoacaaGb
import Derived.Deep.QuietTactic
import Derived.BigQuiet
import Derived.IntWalk
import Derived.StillTail
import Derived.Deep.Quiet
import Derived.Laws.ResultCell
namespace Go.Proofs.Ytbeggckkgaoacaa
set_option linter.unusedVariables false
set_option maxRecDepth 100000

/-- How many bytes the name takes with which bytes begin, whatever its length. -/
def pre : Bs → Option Nat
  | [] => none
  | k :: r => if k.toNat = 0 then some 1 else if 63 < k.toNat then none else if r.length < k.toNat then none else (pre (r.drop k.toNat)).map (· + (1 + k.toNat))
termination_by l => l.length
decreasing_by simp; omega
def nameLen (b : Bs) : Option Nat := match pre b with | some n => if n ≤ 255 then some n else none | none => none

theorem pre_le : ∀ (m : Nat) {b : Bs} {n : Nat}, b.length ≤ m → pre b = some n → 1 ≤ n ∧ n ≤ b.length
  | _, [], n, _, h => by rw [pre] at h; cases h
  | 0, _ :: _, _, hm, _ => by simp at hm
  | m + 1, k :: r, n, hm, h => by
    rw [pre] at h
    split at h
    · injection h with h; subst h; simp
    · split at h
      · cases h
      · split at h
        · cases h
        · cases hd : pre (r.drop k.toNat) with
          | none => rw [hd] at h; cases h
          | some j =>
            rw [hd] at h
            simp only [Option.map_some, Option.some.injEq] at h
            have := pre_le m (by simp at hm ⊢; omega) hd
            rw [List.length_drop] at this
            rw [List.length_cons]
            omega

theorem labs_pre : ∀ (m : Nat) {b : Bs} {k : Nat}, b.length ≤ m → k ≤ b.length → ((labs (b.take k)).isSome = true ↔ pre b = some k)
  | _, [], k, _, hk => by
    simp at hk
    subst hk
    simp [labs, pre]
  | 0, _ :: _, _, hm, _ => by simp at hm
  | m + 1, c :: r, 0, hm, hk => by
    rw [List.take_zero, labs]
    simp only [Option.isSome_none, Bool.false_eq_true, false_iff]
    intro h
    have := pre_le _ (Nat.le_refl _) h
    omega
  | m + 1, c :: r, k + 1, hm, hk => by
    rw [List.take_succ_cons, labs, pre]
    by_cases h0 : c.toNat = 0
    · rw [if_pos h0, if_pos h0]
      by_cases hr : r.take k = []
      · rw [if_pos hr]
        have : k = 0 := by
          have := congrArg List.length hr
          simp at this hk
          rcases this with h | h
          · exact h
          · subst h; simp at hk; exact hk
        subst this
        simp
      · rw [if_neg hr]
        have : k ≠ 0 := fun e => hr (by rw [e, List.take_zero])
        simp
        omega
    · rw [if_neg h0, if_neg h0]
      by_cases h6 : 63 < c.toNat
      · rw [if_pos h6, if_pos h6]; simp
      · rw [if_neg h6, if_neg h6]
        have hd : (r.take k).drop c.toNat = (r.drop c.toNat).take (k - c.toNat) := by rw [List.drop_take]
        rw [hd]
        by_cases hs : r.length < c.toNat
        · rw [if_pos hs, List.drop_eq_nil_of_le (by omega)]
          simp [labs]
        · rw [if_neg hs]
          by_cases hkc : c.toNat ≤ k
          · have ih := labs_pre m (b := r.drop c.toNat) (k := k - c.toNat) (by simp at hm ⊢; omega) (by simp at hk ⊢; omega)
            rw [Option.isSome_map, ih]
            constructor
            · intro h; rw [h]; simp; omega
            · intro h
              cases hp : pre (r.drop c.toNat) with
              | none => rw [hp] at h; cases h
              | some j => rw [hp] at h; simp at h; rw [show j = k - c.toNat by omega]
          · rw [show k - c.toNat = 0 by omega, List.take_zero, labs]
            simp only [Option.map_none, Option.isSome_none, Bool.false_eq_true, false_iff]
            intro h
            cases hp : pre (r.drop c.toNat) with
            | none => rw [hp] at h; cases h
            | some j =>
              rw [hp] at h
              simp at h
              have := pre_le _ (Nat.le_refl _) hp
              omega

/-- Just one beginning is a name, if one is. -/
theorem can_take {b : Bs} {k : Nat} (hk : k ≤ b.length) : can (b.take k) = true ↔ nameLen b = some k := by
  have h := labs_pre _ (Nat.le_refl b.length) hk
  unfold can nameLen
  rw [Bool.and_eq_true, decide_eq_true_eq, List.length_take, Nat.min_eq_left hk, h]
  constructor
  · rintro ⟨h1, h2⟩; rw [h2]; simp [h1]
  · intro h2
    cases hp : pre b with
    | none => rw [hp] at h2; cases h2
    | some n =>
      rw [hp] at h2
      simp only at h2
      split at h2
      · injection h2 with h2; subst h2; exact ⟨by assumption, rfl⟩
      · cases h2
theorem nameLen_le {b : Bs} {k : Nat} (h : nameLen b = some k) : 1 ≤ k ∧ k ≤ b.length ∧ k ≤ 255 := by
  unfold nameLen at h
  cases hp : pre b with
  | none => rw [hp] at h; cases h
  | some n =>
    rw [hp] at h
    simp only at h
    split at h
    · injection h with h; subst h
      have := pre_le _ (Nat.le_refl _) hp
      exact ⟨this.1, this.2, by assumption⟩
    · cases h
theorem can_nameLen {b : Bs} (h : can b = true) (r : Bs) : nameLen (b ++ r) = some b.length := by
  refine (can_take (b := b ++ r) (k := b.length) (by simp)).1 ?_
  rw [List.take_left]; exact h

/-- Texts, one behind the other: none too. -/
def txs : Bs → Bool
  | [] => true
  | k :: r => if r.length < k.toNat then false else txs (r.drop k.toNat)
termination_by l => l.length
decreasing_by simp; omega
def texts (b : Bs) : Bool := !(b == []) && txs b
/-- Options, one behind the other. -/
def opts (b : Bs) : Bool := match b with
  | [] => true
  | _ :: _ :: h :: l :: r => if r.length < h.toNat * 256 + l.toNat then false else opts (r.drop (h.toNat * 256 + l.toNat))
  | _ => false
termination_by b.length
decreasing_by simp; omega

/-- A number of four bytes. -/
def four (b : Bs) : Nat := (((b.getD 0 0).toNat * 256 + (b.getD 1 0).toNat) * 256 + (b.getD 2 0).toNat) * 256 + (b.getD 3 0).toNat
def fourB (n : Nat) : Bs := [UInt8.ofNat (n / 16777216), UInt8.ofNat (n / 65536), UInt8.ofNat (n / 256), UInt8.ofNat n]
structure Soa where
  m : Bs
  r : Bs
  a : Nat
  b : Nat
  c : Nat
  d : Nat
  e : Nat
/-- What the data of an SOA say. -/
def soa (b : Bs) : Option Soa := match nameLen b with
  | none => none
  | some i => match nameLen (b.drop i) with
    | none => none
    | some j => if b.length = i + j + 20 then some ⟨b.take i, (b.drop i).take j, four (b.drop (i + j)), four (b.drop (i + j + 4)), four (b.drop (i + j + 8)), four (b.drop (i + j + 12)), four (b.drop (i + j + 16))⟩ else none

def isName (t : Int) : Bool := t == 2 || t == 5 || t == 12
def canD (t : Int) (b : Bs) : Bool :=
  if t < 0 ∨ 65535 < t ∨ 65535 < b.length then false
  else if t = 1 then b.length == 4
  else if t = 28 then b.length == 16
  else if t = 2 ∨ t = 5 ∨ t = 12 then can b
  else if t = 15 then decide (2 < b.length) && can (b.drop 2)
  else if t = 6 then (soa b).isSome
  else if t = 16 then texts b
  else if t = 41 then opts b
  else true
def namesD (t : Int) (b : Bs) : List Bs :=
  if canD t b then
    (if t = 2 ∨ t = 5 ∨ t = 12 then [b]
    else if t = 15 then [b.drop 2]
    else if t = 6 then (match soa b with | some s => [s.m, s.r] | none => [])
    else [])
  else []
end Go.Proofs.Ytbeggckkgaoacaa
namespace Go.Proofs.Ytbeggckkgaoacaa
open Go.RowKit
set_option linter.unusedVariables false
set_option maxRecDepth 100000

/-- What First answers. -/
def FirstPost (w : World) (l : Bs) (e : Ending) (w' : World) : Prop :=
  (nameLen l = none ∧ e = .returned (.tuple #[.string (bs []), .slice none 0 0, .bool false]) ∧ Below w.heap.size w w') ∨
  (∃ k A c, nameLen l = some k ∧ e = .returned (.tuple #[.string (bs (l.take k)), .slice A (l.drop k).length c, .bool true]) ∧ Bys w' A (l.drop k) ∧ (l.drop k).length ≤ c ∧ c ≤ 9223372036854775807 ∧ Below w.heap.size w w')

set_option maxHeartbeats 2000000 in
set_option maxRecDepth 100000 in
theorem rFirst_any (A : Option Addr) (l : Bs) (c : Nat) (w : World) (hS : Bys w A l) (hc : l.length ≤ c) (hcm : c ≤ 9223372036854775807) : Calls Try.prog 69 #[.slice A l.length c] w (FirstPost w l) := by
  go_enter Try.func69, Try.ntmps69
  go_wp2_with fail
  go_loop [5] (fun v => ∃ k : Nat, v = .int .i64 k ∧ 1 ≤ k ∧ k ≤ 256 ∧ Hid (∀ j, j < k → j ≤ l.length → nameLen l ≠ some j)) (fun v => 257 - (intOf v).toNat)
  case atStart => exact ⟨1, rfl, by omega, by omega, Lib.hid (fun j hj _ h => by have := nameLen_le h; omega)⟩
  case round =>
    obtain ⟨k, rfl, hk1, hk2, hN⟩ := hrel
    by_cases hin : k ≤ l.length ∧ k ≤ 255
    · obtain ⟨hl, h255⟩ := hin
      have t1 : (k : Int) ≤ (l.length : Int) := by omega
      have t2 : (k : Int) ≤ 255 := by omega
      have hpre := slice_pre A l c k k hl hc rfl
      have hstr := fun n => string_bys A (l.take k) c (w.drewN n) ((hS.pre k).on (below_drewN (Below.refl _ _) n))
      have hstr0 := string_bys A (l.take k) c w (hS.pre k)
      obtain ⟨A', hrun, hS', hc'⟩ := slice_bys A l c k k w hS hl hc rfl
      have RC := Lib.hid (fun W => rCan_any (l.take k) W)
      have HK := Lib.hid (can_take hl)
      rw [show (l.take k).length = k by rw [List.length_take]; omega] at hpre hstr hstr0
      obtain ⟨x, hx⟩ : ∃ x, x = l.take k := ⟨_, rfl⟩
      obtain ⟨y, hy⟩ : ∃ y, y = l.drop k := ⟨_, rfl⟩
      obtain ⟨c', hce⟩ : ∃ c', c' = c - k := ⟨_, rfl⟩
      rw [← hx] at hstr hstr0 RC HK
      rw [← hy, ← hce] at hrun hc'
      rw [← hy] at hS'
      have HX := Lib.hid hx
      have HY := Lib.hid hy
      have hcm' : c' ≤ 9223372036854775807 := by omega
      clear hx hy hce
      cases hcan : can x with
      | true =>
        have hn := HK.out.1 hcan
        have HN := Lib.hid hn
        rw [hcan] at RC
        clear hcan hn HK
        go_wp2_with fail
        refine (RC.out _).mono ?_
        rintro e w1 ⟨rfl, rfl⟩
        go_wp2_with fail
        go_quiet (fail)
        go_wp2_with fail
        go_ret3
        exact .inr ⟨k, A', c', HN.out, by rw [← HX.out, ← HY.out]; rfl, by rw [← HY.out]; exact hS', by rw [← HY.out]; exact hc', hcm', below_drewN (Below.refl _ _) _⟩
      | false =>
        have hno : nameLen l ≠ some k := fun h => by rw [HK.out.2 h] at hcan; cases hcan
        have hN2 := Lib.hid (fun j hj hjl => by
          rcases Nat.lt_or_ge j k with h | h
          · exact hN.out j h hjl
          · rw [show j = k by omega]; exact hno : ∀ j, j < k + 1 → j ≤ l.length → nameLen l ≠ some j)
        rw [hcan] at RC
        clear hcan HK hno hN
        go_wp2_with fail
        refine (RC.out _).mono ?_
        rintro e w1 ⟨rfl, rfl⟩
        go_wp2_with fail
        go_round
        case rel => exact ⟨k + 1, by go_num, by omega, by omega, hN2⟩
        case measure => simp [intOf]; omega
    · have hnone : nameLen l = none := by
        cases h : nameLen l with
        | none => rfl
        | some j =>
          have := nameLen_le h
          exact absurd h (hN.out j (by omega) (by omega))
      have HN := Lib.hid hnone
      clear hnone hN
      by_cases h1 : (k : Int) ≤ (l.length : Int)
      · have h2 : ¬ (k : Int) ≤ 255 := by omega
        go_wp2_with fail
        go_ret3
        exact .inl ⟨HN.out, rfl, Below.refl _ _⟩
      · go_wp2_with fail
        go_ret3
        exact .inl ⟨HN.out, rfl, Below.refl _ _⟩

theorem txs_cons (k : UInt8) (r : Bs) : txs (k :: r) = if r.length < k.toNat then false else txs (r.drop k.toNat) := by rw [txs]
theorem txs_nil : txs [] = true := by rw [txs]

set_option maxHeartbeats 2000000 in
set_option maxRecDepth 100000 in
theorem rtexts_any (A : Option Addr) (l : Bs) (c : Nat) (w : World) (hS : Bys w A l) (hc : l.length ≤ c) (hcm : c ≤ 9223372036854775807) (hl : l.length ≤ 65535) : Calls Try.prog 78 #[.slice A l.length c] w fun e w' => e = .returned (.bool (texts l)) ∧ w = w' := by
  cases l with
  | nil =>
    go_enter Try.func78, Try.ntmps78
    go_wp2_with fail
    go_ret
    exact ⟨rfl, rfl⟩
  | cons b0 r0 =>
    have ht : texts (b0 :: r0) = txs (b0 :: r0) := by unfold texts; simp
    rw [ht]
    have hz : (((b0 :: r0).length : Int) == 0) = false := by rw [beq_eq_false_iff_ne]; simp; omega
    clear ht
    generalize b0 :: r0 = l at *
    go_enter Try.func78, Try.ntmps78
    go_wp2_with fail
    go_loop [0] (fun v => ∃ (B : Option Addr) (m : Bs) (d : Nat), v = .slice B m.length d ∧ Bys w B m ∧ m.length ≤ d ∧ m.length ≤ 65535 ∧ Hid (txs l = txs m)) (fun v => match v with | .slice _ n _ => n | _ => 0)
    case atStart => exact ⟨A, l, c, rfl, hS, hc, hl, Lib.hid rfl⟩
    case round =>
      clear hz hS hc hl hcm
      obtain ⟨B, m, d, rfl, hS, hc, hl, hT⟩ := hrel
      cases m with
      | nil =>
        have HT := Lib.hid (hT.out.trans txs_nil)
        clear hT
        go_wp2_with fail
        go_ret
        exact ⟨by rw [HT.out]; rfl, rfl⟩
      | cons k r =>
        have hT2 := hT.out
        rw [txs_cons] at hT2
        obtain ⟨g, off, rfl, hcs⟩ := hS (by simp)
        have h0 : w.cell? ⟨g, off, none⟩ = some (.int .u8 k.toNat) := hcs 0 (by simp)
        have hkt := k.toNat_lt
        have hlen : (k :: r).length = r.length + 1 := rfl
        have hpos : (0 : Int) < ((k :: r).length : Int) := by omega
        by_cases hs : r.length < k.toNat
        · rw [if_pos hs] at hT2
          have HT := Lib.hid hT2
          have h1 : ((k :: r).length : Int) < 1 + (k.toNat : Int) := by omega
          clear hT hT2 hcs hlen hs
          generalize k.toNat = m at *
          generalize (k :: r).length = n at *
          go_wp2_with fail
          go_ret
          exact ⟨by rw [HT.out]; rfl, rfl⟩
        · rw [if_neg hs] at hT2
          have HT := Lib.hid hT2
          have h1 : ¬ ((k :: r).length : Int) < 1 + (k.toNat : Int) := by omega
          obtain ⟨B', hrun, hS', hc'⟩ := slice_bys (some ⟨g, off, none⟩) (k :: r) d (1 + k.toNat) (1 + (k.toNat : Int)) w hS (by omega) hc (by omega)
          have hd : (k :: r).drop (1 + k.toNat) = r.drop k.toNat := by rw [Nat.add_comm]; rfl
          rw [hd] at hrun hS' hc'
          have hdl : (r.drop k.toNat).length = r.length - k.toNat := List.length_drop
          have HL := Lib.hid hdl
          have hle2 : (r.drop k.toNat).length ≤ 65535 := by omega
          have hsh : (r.drop k.toNat).length < (k :: r).length := by omega
          clear hT hT2 hcs hS hd hdl hs hc hlen
          generalize r.drop k.toNat = q at *
          generalize d - (1 + k.toNat) = d' at *
          generalize hkm : k.toNat = m at *
          clear hkm
          generalize (k :: r).length = n at *
          go_wp2_with fail
          go_round
          case rel => exact ⟨B', q, d', rfl, hS', hc', hle2, HT⟩
          case measure => simp; omega

theorem opts_nil : opts [] = true := by rw [opts]
theorem opts_short {b : Bs} (h : b ≠ []) (h4 : b.length < 4) : opts b = false := by
  match b, h, h4 with
  | [_], _, _ => simp [opts]
  | [_, _], _, _ => simp [opts]
  | [_, _, _], _, _ => simp [opts]
  | _ :: _ :: _ :: _ :: _, _, h4 => simp at h4; omega
theorem opts_cons (a b h l : UInt8) (r : Bs) : opts (a :: b :: h :: l :: r) = if r.length < h.toNat * 256 + l.toNat then false else opts (r.drop (h.toNat * 256 + l.toNat)) := by rw [opts]

set_option maxHeartbeats 2000000 in
set_option maxRecDepth 100000 in
theorem roptions_any (A : Option Addr) (l : Bs) (c : Nat) (w : World) (hS : Bys w A l) (hc : l.length ≤ c) (hcm : c ≤ 9223372036854775807) (hl : l.length ≤ 65535) : Calls Try.prog 79 #[.slice A l.length c] w fun e w' => e = .returned (.bool (opts l)) ∧ Below w.heap.size w w' := by
  go_enter Try.func79, Try.ntmps79
  go_wp2_with fail
  go_loopw [0] (fun v wr => ∃ (B : Option Addr) (m : Bs) (d n : Nat), wr = w.drewN n ∧ v = .slice B m.length d ∧ Bys w B m ∧ m.length ≤ d ∧ m.length ≤ 65535 ∧ Hid (opts l = opts m)) (fun v _ => match v with | .slice _ n _ => n | _ => 0)
  case atStart => exact ⟨A, l, c, 0, rfl, rfl, hS, hc, hl, Lib.hid rfl⟩
  case round =>
    clear hS hc hl hcm
    obtain ⟨B, m, d, n, rfl, rfl, hS, hc, hl, hT⟩ := hrel
    by_cases hnil : m = []
    · subst hnil
      have HT := Lib.hid (hT.out.trans opts_nil)
      clear hT
      go_wp2_with fail
      go_ret
      exact ⟨by rw [HT.out]; rfl, below_drewN (Below.refl _ _) _⟩
    · have hpos : (0 : Int) < (m.length : Int) := by have := List.length_pos_iff.2 hnil; omega
      by_cases h4 : m.length < 4
      · have HT := Lib.hid (hT.out.trans (opts_short hnil h4))
        have h4' : (m.length : Int) < 4 := by omega
        clear hT hnil h4
        go_wp2_with fail
        go_ret
        exact ⟨by rw [HT.out]; rfl, below_drewN (Below.refl _ _) _⟩
      · match m, hnil, h4 with
        | [], h, _ => exact absurd rfl h
        | [_], _, h => exact absurd (by simp) h
        | [_, _], _, h => exact absurd (by simp) h
        | [_, _, _], _, h => exact absurd (by simp) h
        | a :: b :: hh :: ll :: r, _, _ =>
          have hT2 := hT.out
          rw [opts_cons] at hT2
          obtain ⟨g, off, rfl, hcs⟩ := hS (by simp)
          have y2 : w.cell? ⟨g, off + 2, none⟩ = some (.int .u8 hh.toNat) := hcs 2 (by simp)
          have y3 : w.cell? ⟨g, off + 3, none⟩ = some (.int .u8 ll.toNat) := hcs 3 (by simp)
          have t1 := hh.toNat_lt
          have t2 := ll.toNat_lt
          have hlen : (a :: b :: hh :: ll :: r).length = r.length + 4 := rfl
          have h4' : ¬ ((a :: b :: hh :: ll :: r).length : Int) < 4 := by omega
          have p2 : (2 : Int) < ((a :: b :: hh :: ll :: r).length : Int) := by omega
          have p3 : (3 : Int) < ((a :: b :: hh :: ll :: r).length : Int) := by omega
          obtain ⟨K, hK⟩ : ∃ K, K = hh.toNat * 256 + ll.toNat := ⟨_, rfl⟩
          have hKi : (K : Int) = (hh.toNat : Int) * 256 + (ll.toNat : Int) := by omega
          rw [← hK] at hT2
          have W1 : Hid (IntKind.i64.wrap ((hh.toNat : Int) * 256) = (hh.toNat : Int) * 256 ∧ IntKind.i64.wrap ((hh.toNat : Int) * 256 + (ll.toNat : Int)) = (hh.toNat : Int) * 256 + (ll.toNat : Int) ∧ IntKind.i64.wrap (hh.toNat : Int) = (hh.toNat : Int) ∧ IntKind.i64.wrap (ll.toNat : Int) = (ll.toNat : Int)) :=
            Lib.hid ⟨IntWalk.i64_in _ (by omega), IntWalk.i64_in _ (by omega), IntWalk.i64_in _ (by omega), IntWalk.i64_in _ (by omega)⟩
          have HK := Lib.hid hKi
          have hKb : K ≤ 65535 := by omega
          by_cases hs : r.length < K
          · rw [if_pos hs] at hT2
            have HT := Lib.hid hT2
            have h1 : ((a :: b :: hh :: ll :: r).length : Int) < 4 + (K : Int) := by omega
            clear hT hT2 hcs hlen hs hK hKi
            generalize (a :: b :: hh :: ll :: r).length = z at *
            generalize hh.toNat = m1 at *
            generalize ll.toNat = m2 at *
            go_wp2_with fail
            obtain ⟨q1, q2, q3, q4⟩ := W1.out
            go_quiet (fail)
            clear q1 q2 q3 q4 W1
            rw [← HK.out]
            go_wp2_with fail
            go_ret
            exact ⟨by rw [HT.out]; rfl, below_drewN (Below.refl _ _) _⟩
          · rw [if_neg hs] at hT2
            have HT := Lib.hid hT2
            have h1 : ¬ ((a :: b :: hh :: ll :: r).length : Int) < 4 + (K : Int) := by omega
            obtain ⟨B', hrun, hS', hc'⟩ := slice_bys (some ⟨g, off, none⟩) (a :: b :: hh :: ll :: r) d (4 + K) (4 + (K : Int)) w hS (by omega) hc (by omega)
            have hd : (a :: b :: hh :: ll :: r).drop (4 + K) = r.drop K := by rw [Nat.add_comm]; rfl
            rw [hd] at hrun hS' hc'
            have hdl : (r.drop K).length = r.length - K := List.length_drop
            have hle2 : (r.drop K).length ≤ 65535 := by omega
            have hsh : (r.drop K).length < (a :: b :: hh :: ll :: r).length := by omega
            clear hT hT2 hcs hS hd hdl hs hc hlen hK hKi
            generalize r.drop K = q at *
            generalize d - (4 + K) = d' at *
            generalize (a :: b :: hh :: ll :: r).length = z at *
            generalize hh.toNat = m1 at *
            generalize ll.toNat = m2 at *
            go_wp2_with fail
            obtain ⟨q1, q2, q3, q4⟩ := W1.out
            go_quiet (fail)
            clear q1 q2 q3 q4 W1
            rw [← HK.out]
            go_wp2_with fail
            go_roundw
            case rel => exact ⟨B', q, d', _, rfl, rfl, hS', hc', hle2, HT⟩
            case measure => simp; omega

set_option maxHeartbeats 2000000 in
set_option maxRecDepth 100000 in
theorem rfour_any (A : Option Addr) (l : Bs) (n c : Nat) (w : World) (hS : Bys w A l) (hn : n = l.length) (h4 : 4 ≤ l.length) : Calls Try.prog 70 #[.slice A n c] w fun e w' => e = .returned (.int .i64 (four l)) ∧ ∃ k, w' = w.drewN k := by
  obtain ⟨g, off, rfl, hcs⟩ := hS (by omega)
  have y0 := hcs 0 (by omega)
  have y1 := hcs 1 (by omega)
  have y2 := hcs 2 (by omega)
  have y3 := hcs 3 (by omega)
  have t0 := (l[0]).toNat_lt
  have t1 := (l[1]).toNat_lt
  have t2 := (l[2]).toNat_lt
  have t3 := (l[3]).toNat_lt
  have hf : four l = (((l[0]).toNat * 256 + (l[1]).toNat) * 256 + (l[2]).toNat) * 256 + (l[3]).toNat := by
    unfold four
    simp [List.getD_eq_getElem?_getD, List.getElem?_eq_getElem (show 0 < l.length by omega), List.getElem?_eq_getElem (show 1 < l.length by omega), List.getElem?_eq_getElem (show 2 < l.length by omega), List.getElem?_eq_getElem (show 3 < l.length by omega)]
  rw [Nat.add_zero] at y0
  generalize (l[0]).toNat = a0 at *
  generalize (l[1]).toNat = a1 at *
  generalize (l[2]).toNat = a2 at *
  generalize (l[3]).toNat = a3 at *
  have hfi : (four l : Int) = (((a0 : Int) * 256 + (a1 : Int)) * 256 + (a2 : Int)) * 256 + (a3 : Int) := by omega
  have HF := Lib.hid hfi
  have n0 : (0 : Int) < (n : Int) := by omega
  have n1 : (1 : Int) < (n : Int) := by omega
  have n2 : (2 : Int) < (n : Int) := by omega
  have n3 : (3 : Int) < (n : Int) := by omega
  have q1 : IntKind.i64.wrap (a0 : Int) = (a0 : Int) := IntWalk.i64_in _ (by omega)
  have q2 : IntKind.i64.wrap (a1 : Int) = (a1 : Int) := IntWalk.i64_in _ (by omega)
  have q3 : IntKind.i64.wrap (a2 : Int) = (a2 : Int) := IntWalk.i64_in _ (by omega)
  have q4 : IntKind.i64.wrap (a3 : Int) = (a3 : Int) := IntWalk.i64_in _ (by omega)
  have q5 : IntKind.i64.wrap ((a0 : Int) * 256) = (a0 : Int) * 256 := IntWalk.i64_in _ (by omega)
  have q6 : IntKind.i64.wrap ((a0 : Int) * 256 + (a1 : Int)) = (a0 : Int) * 256 + (a1 : Int) := IntWalk.i64_in _ (by omega)
  have q7 : IntKind.i64.wrap (((a0 : Int) * 256 + (a1 : Int)) * 256) = ((a0 : Int) * 256 + (a1 : Int)) * 256 := IntWalk.i64_in _ (by omega)
  have q8 : IntKind.i64.wrap (((a0 : Int) * 256 + (a1 : Int)) * 256 + (a2 : Int)) = ((a0 : Int) * 256 + (a1 : Int)) * 256 + (a2 : Int) := IntWalk.i64_in _ (by omega)
  have q9 : IntKind.i64.wrap ((((a0 : Int) * 256 + (a1 : Int)) * 256 + (a2 : Int)) * 256) = (((a0 : Int) * 256 + (a1 : Int)) * 256 + (a2 : Int)) * 256 := IntWalk.i64_in _ (by omega)
  have q10 : IntKind.i64.wrap ((((a0 : Int) * 256 + (a1 : Int)) * 256 + (a2 : Int)) * 256 + (a3 : Int)) = (((a0 : Int) * 256 + (a1 : Int)) * 256 + (a2 : Int)) * 256 + (a3 : Int) := IntWalk.i64_in _ (by omega)
  clear hf hfi hn h4 hcs hS
  go_enter Try.func70, Try.ntmps70
  go_wp2_with fail
  go_quiet (fail)
  go_wp2_with fail
  go_ret
  exact ⟨by rw [HF.out]; rfl, _, rfl⟩
end Go.Proofs.Ytbeggckkgaoacaa
namespace Go.Proofs.Ytbeggckkgaoacaa
set_option linter.unusedVariables false
set_option maxRecDepth 100000

/-- The name at the beginning; empty, if there is none. -/
def first (b : Bs) : Bs := match nameLen b with | some k => b.take k | none => []
/-- The place at which a walk from label to label stops. -/
def stop : Bs → Nat
  | [] => 0
  | k :: r => if k.toNat = 0 then 0 else 1 + k.toNat + stop (r.drop k.toNat)
termination_by l => l.length
decreasing_by simp; omega

theorem pre_stop : ∀ (m : Nat) {b : Bs} {n : Nat}, b.length ≤ m → pre b = some n → stop b + 1 = n
  | _, [], n, _, h => by rw [pre] at h; cases h
  | 0, _ :: _, _, hm, _ => by simp at hm
  | m + 1, k :: r, n, hm, h => by
    rw [pre] at h
    rw [stop]
    split at h
    · rename_i h0
      rw [if_pos h0]
      injection h with h
    · rename_i h0
      rw [if_neg h0]
      split at h
      · cases h
      · split at h
        · cases h
        · cases hd : pre (r.drop k.toNat) with
          | none => rw [hd] at h; cases h
          | some j =>
            rw [hd] at h
            simp only [Option.map_some, Option.some.injEq] at h
            have := pre_stop m (by simp at hm ⊢; omega) hd
            omega
theorem nameLen_stop {b : Bs} {k : Nat} (h : nameLen b = some k) : stop b + 1 = k := by
  unfold nameLen at h
  cases hp : pre b with
  | none => rw [hp] at h; cases h
  | some n =>
    rw [hp] at h
    simp only at h
    split at h
    · injection h with h; subst h
      exact pre_stop _ (Nat.le_refl _) hp
    · cases h
theorem stop_step {b : Bs} {a : Nat} (h : a < b.length) (h0 : (b[a]).toNat ≠ 0) : stop (b.drop a) = 1 + (b[a]).toNat + stop (b.drop (a + 1 + (b[a]).toNat)) := by
  rw [List.drop_eq_getElem_cons h, stop, if_neg h0, List.drop_drop]
theorem stop_zero {b : Bs} {a : Nat} (h : a < b.length) (h0 : (b[a]).toNat = 0) : stop (b.drop a) = 0 := by
  rw [List.drop_eq_getElem_cons h, stop, if_pos h0]
theorem stop_end {b : Bs} {a : Nat} (h : b.length ≤ a) : stop (b.drop a) = 0 := by
  rw [List.drop_eq_nil_of_le h, stop]
theorem first_far {b : Bs} {a : Nat} (hs : stop b = a) (h : b.length ≤ a ∨ 255 ≤ a) : first b = [] := by
  unfold first
  cases hn : nameLen b with
  | none => rfl
  | some k =>
    have := nameLen_stop hn
    have := nameLen_le hn
    omega
theorem first_can {b : Bs} {a : Nat} (hs : stop b = a) (h : a < b.length) (hc : can (b.take (a + 1)) = true) : first b = b.take (a + 1) := by
  unfold first
  rw [(can_take (by omega)).1 hc]
theorem first_not {b : Bs} {a : Nat} (hs : stop b = a) (h : a < b.length) (hc : can (b.take (a + 1)) = false) : first b = [] := by
  unfold first
  cases hn : nameLen b with
  | none => rfl
  | some k =>
    have := nameLen_stop hn
    obtain rfl : k = a + 1 := by omega
    rw [(can_take (by omega)).2 hn] at hc
    cases hc
theorem first_none {b : Bs} (h : nameLen b = none) : first b = [] := by unfold first; rw [h]
theorem first_some {b : Bs} {k : Nat} (h : nameLen b = some k) : first b = b.take k := by unfold first; rw [h]
theorem first_len {b : Bs} {k : Nat} (h : nameLen b = some k) : (first b).length = k := by
  rw [first_some h, List.length_take]
  have := nameLen_le h
  omega

/-- Texts from a place on. -/
def txsAt (l : Bs) (a : Nat) : Bool := decide (a ≤ l.length) && txs (l.drop a)
theorem txsAt_zero (l : Bs) : txsAt l 0 = txs l := by simp [txsAt]
theorem txsAt_step {l : Bs} {a : Nat} (h : a < l.length) : txsAt l a = txsAt l (a + 1 + (l[a]).toNat) := by
  unfold txsAt
  rw [List.drop_eq_getElem_cons h, txs_cons, List.drop_drop, List.length_drop]
  by_cases hs : l.length - (a + 1) < (l[a]).toNat
  · rw [if_pos hs]
    have : ¬ a + 1 + (l[a]).toNat ≤ l.length := by omega
    simp [this]
  · rw [if_neg hs]
    have h1 : a + 1 + (l[a]).toNat ≤ l.length := by omega
    have h2 : a ≤ l.length := by omega
    simp [h1, h2]
theorem txsAt_end {l : Bs} {a : Nat} (h : l.length ≤ a) : txsAt l a = decide (a = l.length) := by
  unfold txsAt
  rw [List.drop_eq_nil_of_le h, txs_nil, Bool.and_true]
  rw [Bool.eq_iff_iff]; simp; omega

/-- Options from a place on. -/
def optsAt (l : Bs) (a : Nat) : Bool := decide (a ≤ l.length) && opts (l.drop a)
theorem optsAt_zero (l : Bs) : optsAt l 0 = opts l := by simp [optsAt]
theorem optsAt_step {l : Bs} {a : Nat} (h : a + 4 ≤ l.length) : optsAt l a = optsAt l (a + 4 + ((l[a + 2]).toNat * 256 + (l[a + 3]).toNat)) := by
  unfold optsAt
  rw [List.drop_eq_getElem_cons (show a < l.length by omega), List.drop_eq_getElem_cons (show a + 1 < l.length by omega), List.drop_eq_getElem_cons (show a + 1 + 1 < l.length by omega), List.drop_eq_getElem_cons (show a + 1 + 1 + 1 < l.length by omega), opts_cons, List.drop_drop, List.length_drop]
  simp only [Nat.add_assoc, Nat.reduceAdd]
  generalize (l[a + 2]).toNat * 256 + (l[a + 3]).toNat = K
  by_cases hs : l.length - (a + 4) < K
  · rw [if_pos hs]
    have : ¬ a + (4 + K) ≤ l.length := by omega
    simp [this]
  · rw [if_neg hs]
    have h1 : a + (4 + K) ≤ l.length := by omega
    have h2 : a ≤ l.length := by omega
    simp [h1, h2]
theorem optsAt_end {l : Bs} {a : Nat} (h : l.length < a + 4) : optsAt l a = decide (a = l.length) := by
  unfold optsAt
  by_cases h1 : a ≤ l.length
  · have hlen : (l.drop a).length = l.length - a := List.length_drop
    by_cases h2 : a = l.length
    · subst h2
      rw [List.drop_eq_nil_of_le (Nat.le_refl _)]
      simp [opts]
    · have : opts (l.drop a) = false := by
        match hm : l.drop a with
        | [] => rw [hm] at hlen; simp at hlen; omega
        | [_] => simp [opts]
        | [_, _] => simp [opts]
        | [_, _, _] => simp [opts]
        | _ :: _ :: _ :: _ :: r => rw [hm] at hlen; simp at hlen; omega
      rw [this]; simp [h2]
  · simp [h1]; omega
end Go.Proofs.Ytbeggckkgaoacaa
namespace Go.Proofs.Ytbeggckkgaoacaa
open Go.RowKit
set_option linter.unusedVariables false
set_option maxRecDepth 100000

set_option maxHeartbeats 2000000 in
set_option maxRecDepth 100000 in
theorem areTexts_any (A : Option Addr) (l : Bs) (c : Nat) (w : World) (hS : Bys w A l) (hl : l.length ≤ 65535) : Calls Try.prog 74 #[.slice A l.length c] w fun e w' => e = .returned (.bool (txs l)) ∧ w = w' := by
  have H0 : Hid (txs l = txsAt l 0) := Lib.hid (txsAt_zero l).symm
  go_enter Try.func74, Try.ntmps74
  go_wp2_with fail
  go_loop [3] (fun v => ∃ a : Nat, v = .int .i64 a ∧ a ≤ l.length + 255 ∧ Hid (txs l = txsAt l a)) (fun v => l.length + 256 - (intOf v).toNat)
  case atStart => exact ⟨0, rfl, by omega, H0⟩
  case round =>
    clear H0
    obtain ⟨a, rfl, ha, hT⟩ := hrel
    by_cases hlt : a < l.length
    · obtain ⟨g, off, rfl, hcs⟩ := hS (by omega)
      have y := hcs a hlt
      have ht := (l[a]).toNat_lt
      have HT := Lib.hid (hT.out.trans (txsAt_step hlt))
      clear hT hcs hS
      generalize (l[a]).toNat = m at *
      have hlt' : (a : Int) < (l.length : Int) := by omega
      go_wp2_with fail
      go_round
      case rel => exact ⟨a + 1 + m, by go_num, by omega, HT⟩
      case measure => simp [intOf]; omega
    · have HT := Lib.hid (hT.out.trans (txsAt_end (by omega)))
      have hlt' : ¬ (a : Int) < (l.length : Int) := by omega
      clear hT hS
      have hb : ((a : Int) == (l.length : Int)) = decide (a = l.length) := by rw [Bool.eq_iff_iff]; simp; omega
      rw [← hb] at HT
      clear hb
      go_wp2_with fail
      go_ret
      exact ⟨by rw [HT.out]; rfl, rfl⟩

set_option maxHeartbeats 2000000 in
set_option maxRecDepth 100000 in
theorem areOptions_any (A : Option Addr) (l : Bs) (c : Nat) (w : World) (hS : Bys w A l) (hl : l.length ≤ 65535) : Calls Try.prog 75 #[.slice A l.length c] w fun e w' => e = .returned (.bool (opts l)) ∧ Below w.heap.size w w' := by
  have H0 : Hid (opts l = optsAt l 0) := Lib.hid (optsAt_zero l).symm
  go_enter Try.func75, Try.ntmps75
  go_wp2_with fail
  go_loopw [3] (fun v wr => ∃ a : Nat, Below w.heap.size w wr ∧ v = .int .i64 a ∧ a ≤ l.length + 65535 ∧ Hid (opts l = optsAt l a)) (fun v _ => l.length + 65536 - (intOf v).toNat)
  case atStart => exact ⟨0, Below.refl _ _, rfl, by omega, H0⟩
  case round =>
    clear H0
    obtain ⟨a, hB, rfl, ha, hT⟩ := hrel
    by_cases hlt : a + 4 ≤ l.length
    · obtain ⟨g, off, rfl, hcs⟩ := (hS.on hB) (by omega)
      have y2 := hcs (a + 2) (by omega)
      have y3 := hcs (a + 3) (by omega)
      have t2 := (l[a + 2]).toNat_lt
      have t3 := (l[a + 3]).toNat_lt
      have HT := Lib.hid (hT.out.trans (optsAt_step hlt))
      clear hT hcs hS
      generalize (l[a + 2]).toNat = m1 at *
      generalize (l[a + 3]).toNat = m2 at *
      have h0 : (a : Int) + 4 ≤ (l.length : Int) := by omega
      have h2 : (a : Int) + 2 < (l.length : Int) := by omega
      have h3 : (a : Int) + 3 < (l.length : Int) := by omega
      go_wp2_with fail
      go_quiet (fail)
      go_wp2_with fail
      go_roundw
      case rel => exact ⟨a + 4 + (m1 * 256 + m2), below_drewN hB _, by go_num, by omega, HT⟩
      case measure => simp [intOf]; omega
    · have HT := Lib.hid (hT.out.trans (optsAt_end (by omega)))
      have hlt' : ¬ (a : Int) + 4 ≤ (l.length : Int) := by omega
      clear hT hS
      have hb : ((a : Int) == (l.length : Int)) = decide (a = l.length) := by rw [Bool.eq_iff_iff]; simp; omega
      rw [← hb] at HT
      clear hb
      go_wp2_with fail
      go_ret
      exact ⟨by rw [HT.out]; rfl, hB⟩

/-- What stands ahead of the names, how many names, what stands behind. -/
def shapeP (t : Int) : Nat × Nat × Nat := if t = 2 ∨ t = 5 ∨ t = 12 then (0, 1, 0) else if t = 15 then (2, 1, 0) else if t = 6 then (0, 2, 20) else (0, 0, 0)
set_option maxHeartbeats 2000000 in
set_option maxRecDepth 100000 in
theorem shape_any (t : Int) (w : World) : Calls Try.prog 92 #[.int .i64 t] w fun e w' => e = .returned (.tuple #[.int .i64 (shapeP t).1, .int .i64 (shapeP t).2.1, .int .i64 (shapeP t).2.2]) ∧ w = w' := by
  by_cases en : t = 2 ∨ t = 5 ∨ t = 12
  · have HI : Hid (shapeP t = (0, 1, 0)) := Lib.hid (by unfold shapeP; rw [if_pos en])
    rcases en with rfl | rfl | rfl
    all_goals
      go_enter Try.func92, Try.ntmps92
      go_wp2_with fail
      go_ret3
      exact ⟨by rw [HI.out]; rfl, rfl⟩
  have T2 : (t == 2) = false := by simp; omega
  have T5 : (t == 5) = false := by simp; omega
  have T12 : (t == 12) = false := by simp; omega
  by_cases e15 : t = 15
  · subst e15
    go_enter Try.func92, Try.ntmps92
    go_wp2_with fail
    go_ret3
    exact ⟨rfl, rfl⟩
  by_cases e6 : t = 6
  · subst e6
    go_enter Try.func92, Try.ntmps92
    go_wp2_with fail
    go_ret3
    exact ⟨rfl, rfl⟩
  have HI : Hid (shapeP t = (0, 0, 0)) := Lib.hid (by unfold shapeP; rw [if_neg en, if_neg e15, if_neg e6])
  have T15 : (t == 15) = false := by simp [e15]
  have T6 : (t == 6) = false := by simp [e6]
  clear en e15 e6
  go_enter Try.func92, Try.ntmps92
  go_wp2_with fail
  go_ret3
  exact ⟨by rw [HI.out]; rfl, rfl⟩

set_option maxHeartbeats 2000000 in
set_option maxRecDepth 100000 in
theorem firstName_any (A : Option Addr) (l : Bs) (c : Nat) (w : World) (hS : Bys w A l) (hc : l.length ≤ c) (hcm : c ≤ 9223372036854775807) (hl : l.length ≤ 65535) : Calls Try.prog 93 #[.slice A l.length c] w fun e w' => e = .returned (.string (bs (first l))) ∧ Below w.heap.size w w' := by
  have H0 : Hid (stop l = 0 + stop (l.drop 0)) := Lib.hid (by simp)
  go_enter Try.func93, Try.ntmps93
  go_wp2_with fail
  go_loop [3] (fun v => ∃ a : Nat, v = .int .i64 a ∧ a ≤ l.length + 255 ∧ Hid (stop l = a + stop (l.drop a))) (fun v => l.length + 256 - (intOf v).toNat)
  case atStart => exact ⟨0, rfl, by omega, H0⟩
  case round =>
    clear H0
    obtain ⟨a, rfl, ha, hT⟩ := hrel
    by_cases hlt : a < l.length
    · have hlt' : (a : Int) < (l.length : Int) := by omega
      obtain ⟨g, off, hAeq, hcs⟩ := hS (by omega)
      have y := hcs a hlt
      have ht := (l[a]).toNat_lt
      by_cases h0 : (l[a]).toNat = 0
      · have hs : stop l = a := by rw [hT.out, stop_zero hlt h0]; rfl
        rw [h0] at y
        clear hT hcs h0 ht
        by_cases h255 : 255 ≤ a
        · have HF := Lib.hid (first_far hs (.inr h255))
          have h255' : (255 : Int) ≤ (a : Int) := by omega
          clear hs
          subst hAeq
          clear hS
          go_wp2_with fail
          go_ret
          exact ⟨by rw [HF.out]; rfl, Below.refl _ _⟩
        · have h255' : ¬ (255 : Int) ≤ (a : Int) := by omega
          have hpre := slice_pre A l c (a + 1) ((a : Int) + 1) (by omega) hc (by omega)
          have hst := string_bys A (l.take (a + 1)) c w (hS.pre _)
          have hC := Lib.hid (fun w => Can_any (l.take (a + 1)) w)
          have hx1 : (l.take (a + 1)).length = a + 1 := by rw [List.length_take]; omega
          rw [hx1] at hpre hst
          cases hcan : can (l.take (a + 1)) with
          | true =>
            have HF := Lib.hid (first_can hs hlt hcan)
            rw [hcan] at hC
            generalize l.take (a + 1) = x at *
            clear hs hcan hx1
            subst hAeq
            clear hS
            go_wp2_with fail
            refine (hC.out _).mono ?_
            rintro e w1 ⟨rfl, b1⟩
            go_wp2_with fail
            go_ret
            exact ⟨by rw [HF.out]; rfl, b1⟩
          | false =>
            have HF := Lib.hid (first_not hs hlt hcan)
            rw [hcan] at hC
            generalize l.take (a + 1) = x at *
            clear hs hcan hx1
            subst hAeq
            clear hS
            go_wp2_with fail
            refine (hC.out _).mono ?_
            rintro e w1 ⟨rfl, b1⟩
            go_wp2_with fail
            go_ret
            exact ⟨by rw [HF.out]; rfl, b1⟩
      · have HT : Hid (stop l = (a + 1 + (l[a]).toNat) + stop (l.drop (a + 1 + (l[a]).toNat))) := Lib.hid (by rw [hT.out, stop_step hlt h0]; omega)
        have hne : (((l[a]).toNat : Int) != 0) = true := by rw [bne_iff_ne]; omega
        clear hT hcs hS h0
        subst hAeq
        generalize (l[a]).toNat = m at *
        go_wp2_with fail
        go_round
        case rel => exact ⟨a + 1 + m, by go_num, by omega, HT⟩
        case measure => simp [intOf]; omega
    · have hlt' : ¬ (a : Int) < (l.length : Int) := by omega
      have hs : stop l = a := by rw [hT.out, stop_end (by omega)]; rfl
      have HF := Lib.hid (first_far hs (.inl (by omega)))
      have hge : min (l.length : Int) 255 ≤ (a : Int) := by omega
      clear hT hs hS
      go_wp2_with fail
      go_ret
      exact ⟨by rw [HF.out]; rfl, Below.refl _ _⟩
end Go.Proofs.Ytbeggckkgaoacaa
namespace Go.Proofs.Ytbeggckkgaoacaa
open Go

section
variable {P : Program} {ops : Array Oper} {md : Region.Mode} {C : World → Prop}

/-- Any order of the first n operations, f of them yet to come; L is what is asked behind. -/
def headQ (P : Program) (md : Region.Mode) (ops : Array Oper) (C : World → Prop) (n : Nat) (L : Array Bool → Act → Prop) : Nat → Array Bool → Act → Prop
  | 0, b, a => L b a
  | f + 1, b, a => Region.ready md ops b ≠ [] ∧ ∀ i ∈ Region.ready md ops b, i < n ∧ qOp P ops C i (headQ P md ops C n L f (b.setIfInBounds i true)) a

theorem headQ_runs {n g : Nat} {L : Array Bool → Act → Prop} {Q : Exit → Act → World → Prop} (hL : ∀ b a w, C w → L b a → wpAny P md ops Q g b a w) :
    ∀ (f : Nat) (b : Array Bool) (a : Act), headQ P md ops C n L f b a → ∀ w, C w → wpAny P md ops Q (f + g) b a w := by
  intro f
  induction f with
  | zero => intro b a h w hw; rw [Nat.zero_add]; exact hL b a w hw h
  | succ f ih =>
    intro b a h w hw
    obtain ⟨hne, hall⟩ := h
    rw [Nat.succ_add]
    refine ⟨fun h0 => absurd h0 hne, fun i hi => ?_⟩
    exact wpOp_of_qOp hw (fun a' w' hw' h' => ih _ a' h' w' hw') (hall i hi).2

/-- What is ready in the head, and apart from all that may come between, may be taken first. -/
theorem headQ_take {n i : Nat} {o : Oper} {v : Value} {L : Array Bool → Act → Prop} (ho : ops[i]? = some o) (hsel : ∀ (j : Nat) (o : Oper) cs b, ops[j]? = some o → o.op ≠ .select cs b)
    (hs : Region.sinkB md ops n = true) (hc : Region.chainB md ops n = true) (hn : n < ops.size) (hin : i < n) (hend : ∀ b a, L b a → ∀ j ∈ Region.ready md ops b, n ≤ j)
    (f : Nat) : ∀ (b : Array Bool) (a : Act), HeadInv md ops n b →
      (∀ j oj, ops[j]? = some oj → j ≠ i → b.getD j true = false → (∀ e ∈ oj.after, Region.binds md e = true → e.on ≠ i) → o.apart ops oj = true) →
      i ∈ Region.ready md ops b → YieldsIn P ops C o v a → headQ P md ops C n L f (b.setIfInBounds i true) (a.put o.dst v) → headQ P md ops C n L (f + 1) b a := by
  induction f with
  | zero =>
    intro b a inv _ hr hy H
    have hun := (mem_ready.1 hr).1
    refine ⟨List.ne_nil_of_mem hr, fun j hj => ?_⟩
    have hjn : j < n := Nat.lt_of_not_le fun h => tail_waits hs hc hn inv _ i rfl hin hun j h hj
    by_cases e : j = i
    · rw [e]; exact ⟨hin, hy.qOp ho H⟩
    · have := hend _ _ H j (ready_mono hj e)
      omega
  | succ f ih =>
    intro b a inv hap hr hy H
    have hun := (mem_ready.1 hr).1
    refine ⟨List.ne_nil_of_mem hr, fun j hj => ?_⟩
    have hjn : j < n := Nat.lt_of_not_le fun h => tail_waits hs hc hn inv _ i rfl hin hun j h hj
    by_cases e : j = i
    · rw [e]; exact ⟨hin, hy.qOp ho H⟩
    · obtain ⟨hju, oj, hoj, hdeps⟩ := mem_ready.1 hj
      have hno : ∀ e ∈ oj.after, Region.binds md e = true → e.on ≠ i := by
        intro e he hb heq
        have := hdeps e he hb
        rw [heq, getD_both hun] at this
        cases this
      have hq := (H.2 j (ready_mono hj e)).2
      have hq := qOp_put hoj (hap j oj hoj e hju hno) (fun cs d => hsel i o cs d ho) (fun cs d => hsel j oj cs d hoj) hy hq
      refine ⟨hjn, qOp_mono (fun a' h' => ?_) hq⟩
      obtain ⟨hy', H'⟩ := h'
      refine ih (b.setIfInBounds j true) a' (inv.set hj hjn) (fun k ok hk hki hku hkn => hap k ok hk hki ?_ hkn) (ready_mono hr (Ne.symm e)) hy' ?_
      · by_cases hjk : j = k
        · rw [← hjk]; exact hju
        · rwa [getD_set_ne true hjk] at hku
      · rw [Array.setIfInBounds_comm _ _ e]
        exact H'

theorem headQ_lex {n g : Nat} {K : Act → Prop} (hsel : Region.noSelect ops = true) (hs : Region.sinkB md ops n = true) (hc : Region.chainB md ops n = true) (hn : n < ops.size) (l : List Oper) :
    ∀ (k : Nat) (b : Array Bool) (a : Act), (∀ j, j < l.length → l[j]? = ops[k + j]?) → k + l.length = n → HeadInv md ops n b → Region.lexHead md ops g l.length k b = true → wpQuiet P ops C K l a →
    headQ P md ops C n (fun b' a' => Region.seqB md ops g n b' = true ∧ K a') l.length b a := by
  induction l with
  | nil =>
    intro k b a _ hk _ hB h
    rw [List.length_nil, Nat.add_zero] at hk
    subst hk
    exact ⟨by simpa [Region.lexHead] using hB, h⟩
  | cons o l ih =>
    intro k b a hl hk inv hB h
    rw [List.length_cons] at hk
    have ho : ops[k]? = some o := by
      have := hl 0 (by simp)
      rw [Nat.add_zero] at this
      exact this.symm
    simp only [List.length_cons, Region.lexHead, Bool.and_eq_true, List.contains_eq_mem, decide_eq_true_eq] at hB
    obtain ⟨⟨hr, hf⟩, hB'⟩ := hB
    have hq : qOp P ops C k (wpQuiet P ops C K l) a := by
      unfold qOp
      rw [ho]
      exact h
    obtain ⟨v, hy, hK⟩ := yieldsIn_of_qOp ho hq
    refine headQ_take ho (Region.noSelect_spec hsel) hs hc hn (by omega) (fun b' a' h' => seqB_ready h'.1) l.length b a inv (Region.free_spec ho hf) hr hy ?_
    refine ih (k + 1) _ _ (fun j hj => ?_) (by omega) (inv.set hr (by omega)) hB' hK
    have := hl (j + 1) (by simp; omega)
    rw [List.getElem?_cons_succ] at this
    rw [this]
    congr 1
    omega

/-- The law: n quiet operations, then the rest in its order. -/
theorem wp_region_quiet_tail {id : Nat} {Q : Exit → Act → World → Prop} {a : Act} {w : World} {l : List Oper} (n : Nat) (hm : P.follows .mixedOrders = true) (hB : Region.lexTailB .any l.toArray n = true)
    (h : wpQuiet P l.toArray (fun w' => ∃ k, w' = w.drewN k) (fun a' => ∀ w', (∃ k, w' = w.drewN k) → wpList P l.toArray Q (l.drop n) a' w') (l.take n) a) : (Code.region id l.toArray true).wp P Q a w := by
  unfold Region.lexTailB at hB
  simp only [Bool.and_eq_true, decide_eq_true_eq] at hB
  obtain ⟨⟨⟨⟨hsel, hn⟩, hs⟩, hc⟩, hx⟩ := hB
  have hn' : n < l.length := by simpa using hn
  have hlen : (l.take n).length = n := by rw [List.length_take]; omega
  have inv : HeadInv .any l.toArray n (Array.replicate l.toArray.size false) :=
    ⟨by simp, fun j oj _ hj => (by rw [getD_replicate_false] at hj; cases hj), fun t _ ht => getD_in (by simpa using ht) (getD_replicate_false _ _)⟩
  have hH := headQ_lex (md := .any) (g := l.toArray.size - n) hsel hs hc hn (l.take n) 0 _ a (fun j hj => by
    rw [hlen] at hj
    rw [Nat.zero_add, List.getElem?_take_of_lt hj]
    simp) (by omega) inv (by rw [hlen]; exact hx) h
  have hR := headQ_runs (Q := Q) (g := l.toArray.size - n) (fun b a' w' hw' hL => by
    have ht := wpAny_of_seq (md := .any) (Q' := Q) (l.drop n) n b a' w' (fun j => by simp [List.getElem?_drop]) (by
      have : (l.drop n).length = l.toArray.size - n := by simp
      rw [this]; exact hL.1) (hL.2 w' hw')
    have e : (l.drop n).length = l.toArray.size - n := by simp
    rwa [e] at ht) _ _ _ hH { w with drawn := w.drawn + 1 } ⟨1, rfl⟩
  refine wp_region_any hm ?_
  rw [hlen, show n + (l.toArray.size - n) = l.toArray.size by omega] at hR
  exact hR
end
end Go.Proofs.Ytbeggckkgaoacaa
namespace Go.Proofs.Ytbeggckkgaoacaa
open Go.RowKit
set_option linter.unusedVariables false
set_option maxRecDepth 100000

/-- What the data of an SOA say, as cells. -/
def soaC : Option Soa → Array Value
  | none => #[.string ⟨#[]⟩, .string ⟨#[]⟩, .int .i64 0, .int .i64 0, .int .i64 0, .int .i64 0, .int .i64 0]
  | some s => #[.string (bs s.m), .string (bs s.r), .int .i64 s.a, .int .i64 s.b, .int .i64 s.c, .int .i64 s.d, .int .i64 s.e]
def SoaPost (w : World) (l : Bs) (e : Ending) (w' : World) : Prop := e = .returned (.tuple #[.agg (soaC (soa l)), .bool (soa l).isSome]) ∧ Below w.heap.size w w'

theorem heap_lt3 {w : World} {g : Nat} {o : Obj} (h : w.heap[g]? = some o) : g < w.heap.size := (Array.getElem?_eq_some_iff.1 h).1
theorem soa_none1 {l : Bs} (h : nameLen l = none) : soa l = none := by unfold soa; rw [h]
theorem soa_none2 {l : Bs} {i : Nat} (h : nameLen l = some i) (h2 : nameLen (l.drop i) = none) : soa l = none := by unfold soa; rw [h]; simp only; rw [h2]
theorem soa_at {l : Bs} {i j : Nat} (h : nameLen l = some i) (h2 : nameLen (l.drop i) = some j) : soa l = if l.length = i + j + 20 then some ⟨l.take i, (l.drop i).take j, four (l.drop (i + j)), four (l.drop (i + j + 4)), four (l.drop (i + j + 8)), four (l.drop (i + j + 12)), four (l.drop (i + j + 16))⟩ else none := by unfold soa; rw [h]; simp only; rw [h2]

theorem soaC_size (o : Option Soa) : (soaC o).size = 7 := by cases o <;> rfl
theorem soaC_one (o : Option Soa) : (soaC o).all (·.oneCell') = true := by cases o <;> simp [soaC, Value.oneCell']
theorem soa_info {n : Nat} (h : n = 7) : (Try.prog.info? 67).map (·.size) = some n := by subst h; kernel_rfl
theorem results_soa {c : Value} {tmps : Array Value} {W : World} {g : Nat} {cs : Array Value} (h2 : tmps.getD 2 undef = .pointer (some ⟨g, 0, none⟩)) (h3 : tmps.getD 3 undef = c)
    (r2 : W.heap[g]? = some (.cells cs 67 (0, 0))) (hs : cs.size = 7) :
    (results Try.f48 tmps).run Try.prog W = .ok (.tuple #[.agg cs, c]) W := by
  have q0 : (loadVar 67 ⟨g, 0, none⟩).run Try.prog W = .ok (.agg cs) W := run_loadVar_row W g 67 67 cs (0, 0) _ r2 Try.underlying67 rfl (soa_info hs)
  subst h3
  have h2' : tmps[2]?.getD undef = .pointer (some ⟨g, 0, none⟩) := by simpa using h2
  simp [results, Try.results48, asAddr, h2', q0]

set_option maxHeartbeats 4000000 in
set_option maxRecDepth 100000 in
theorem rSOA_any (A : Option Addr) (l : Bs) (c : Nat) (w : World) (hS : Bys w A l) (hc : l.length ≤ c) (hcm : c ≤ 9223372036854775807) : Calls Try.prog 48 #[.slice A l.length c] w (SoaPost w l) := by
  have hZ0 : soaC none = #[.string ⟨#[]⟩, .string ⟨#[]⟩, .int .i64 0, .int .i64 0, .int .i64 0, .int .i64 0, .int .i64 0] := rfl
  go_enter Try.func48, Try.ntmps48
  go_wp2_with fail
  have bw : Below w.heap.size w (w.alloc (.cells (soaC none) 67)) := Below.alloc (Below.refl _ _) (Nat.le_refl _) _
  have hrow0 := row_new (w := w) (k := w.heap.size) (.cells (soaC none) 67 (0, 0)) rfl
  rw [hZ0] at bw hrow0
  clear hZ0
  refine (rFirst_any A l c _ (hS.on bw) hc hcm).mono ?_
  rintro e w1 (⟨hn, rfl, b1⟩ | ⟨i, A1, c1, hn, rfl, hS1, hc1, hm1, b1⟩)
  · have HZ := Lib.hid (soa_none1 hn)
    have hrow := (b1.block _ (heap_lt3 hrow0)).trans hrow0
    have b2 : Below w.heap.size w w1 := Below.trans bw (b1.mono bw.size)
    clear hn hrow0 b1 bw
    go_wp2_with (first
      | (refine wpList_store_row rfl 67 (.tmp 2) (.tmp 16) rfl w.heap.size (soaC none) rfl rfl 67 _ hrow (soa_info rfl) rfl (soaC_one none) ?_)
      | fail)
    refine bodyPost_ret (v := .tuple #[.agg (soaC none), .bool false]) (results_soa (g := w.heap.size) rfl rfl (setRow_heap _ _ _ _ _ _ hrow) rfl) rfl ?_
    exact ⟨by rw [HZ.out]; rfl, Below.setRow b2 (Nat.le_refl _) _⟩
  · have hrow1 := (b1.block _ (heap_lt3 hrow0)).trans hrow0
    have b2 : Below w.heap.size w w1 := Below.trans bw (b1.mono bw.size)
    have HN := Lib.hid hn
    clear hn hrow0 b1 bw
    obtain ⟨x, hx⟩ : ∃ x, x = l.drop i := ⟨_, rfl⟩
    rw [← hx] at hS1 hc1
    rw [← hx]
    have HX := Lib.hid hx
    have hxl : x.length = l.length - i := by rw [hx, List.length_drop]
    have hil := nameLen_le HN.out
    have HXL := Lib.hid hxl
    clear hx hxl
    have hx1 : x.length ≤ 9223372036854775807 := by have := HXL.out; omega
    go_wp2_with fail
    refine (rFirst_any A1 x c1 _ hS1 hc1 hm1).mono ?_
    rintro e w2 (⟨hn2, rfl, b3⟩ | ⟨j, A2, c2, hn2, rfl, hS2, hc2, hm2, b3⟩)
    · have HZ := Lib.hid (soa_none2 HN.out (by rw [← HX.out]; exact hn2))
      have hrow := (b3.block _ (heap_lt3 hrow1)).trans hrow1
      have b4 : Below w.heap.size w w2 := Below.trans b2 (b3.mono b2.size)
      clear hn2 hrow1 b2 b3
      go_wp2_with (first
        | (refine wpList_store_row rfl 67 (.tmp 2) (.tmp 30) rfl w.heap.size (soaC none) rfl rfl 67 _ hrow (soa_info rfl) rfl (soaC_one none) ?_)
        | fail)
      refine bodyPost_ret (v := .tuple #[.agg (soaC none), .bool false]) (results_soa (g := w.heap.size) rfl rfl (setRow_heap _ _ _ _ _ _ hrow) rfl) rfl ?_
      exact ⟨by rw [HZ.out]; rfl, Below.setRow b4 (Nat.le_refl _) _⟩
    · have hrow := (b3.block _ (heap_lt3 hrow1)).trans hrow1
      have b4 : Below w.heap.size w w2 := Below.trans b2 (b3.mono b2.size)
      have hsoa := soa_at HN.out (by rw [← HX.out]; exact hn2)
      have hjl := nameLen_le hn2
      have hyl : (x.drop j).length = x.length - j := List.length_drop
      obtain ⟨y, hy⟩ : ∃ y, y = x.drop j := ⟨_, rfl⟩
      rw [← hy] at hS2 hc2 hyl
      rw [← hy]
      clear hrow1 b2 b3 hn2
      by_cases h20 : y.length = 20
      · rw [if_pos (by have := HXL.out; omega)] at hsoa
        have hd : ∀ k, l.drop (i + j + k) = y.drop k := fun k => by rw [hy, HX.out, List.drop_drop, List.drop_drop]; congr 1; omega
        have hd0 : l.drop (i + j) = y := by have := hd 0; simpa using this
        rw [hd 4, hd 8, hd 12, hd 16, hd0, ← HX.out] at hsoa
        have HSO := Lib.hid hsoa
        obtain ⟨B4, r4, S4, _⟩ := slice_bys A2 y c2 4 4 w2 hS2 (by omega) hc2 rfl
        obtain ⟨B8, r8, S8, _⟩ := slice_bys A2 y c2 8 8 w2 hS2 (by omega) hc2 rfl
        obtain ⟨B12, r12, S12, _⟩ := slice_bys A2 y c2 12 12 w2 hS2 (by omega) hc2 rfl
        obtain ⟨B16, r16, S16, _⟩ := slice_bys A2 y c2 16 16 w2 hS2 (by omega) hc2 rfl
        have L4 : (y.drop 4).length = 16 := by rw [List.length_drop]; omega
        have L8 : (y.drop 8).length = 12 := by rw [List.length_drop]; omega
        have L12 : (y.drop 12).length = 8 := by rw [List.length_drop]; omega
        have L16 : (y.drop 16).length = 4 := by rw [List.length_drop]; omega
        have F0 := Lib.hid (fun W (hW : Bys W A2 y) => rfour_any A2 y 20 c2 W hW h20.symm (by omega))
        have F4 := Lib.hid (fun W (hW : Bys W B4 (y.drop 4)) => rfour_any B4 (y.drop 4) 16 (c2 - 4) W hW L4.symm (by omega))
        have F8 := Lib.hid (fun W (hW : Bys W B8 (y.drop 8)) => rfour_any B8 (y.drop 8) 12 (c2 - 8) W hW L8.symm (by omega))
        have F12 := Lib.hid (fun W (hW : Bys W B12 (y.drop 12)) => rfour_any B12 (y.drop 12) 8 (c2 - 12) W hW L12.symm (by omega))
        have F16 := Lib.hid (fun W (hW : Bys W B16 (y.drop 16)) => rfour_any B16 (y.drop 16) 4 (c2 - 16) W hW L16.symm (by omega))
        rw [L4, h20] at r4
        rw [L8, h20] at r8
        rw [L12, h20] at r12
        rw [L16, h20] at r16
        rw [h20]
        clear hsoa hd hd0 hyl L4 L8 L12 L16 hc hcm hc1 hc2 hx1 hy
        go_wp2_with fail
        refine wp_region_quiet_tail 17 (by kernel_rfl) (by kernel_rfl) ?_
        simp only [List.take_succ_cons, List.take_zero, List.drop_succ_cons, List.drop_zero]
        repeat (go_big_quiet_step ((first
          | (go_at_call 70; (with_reducible refine Calls.quiet_of (F0.out _ ?_)); exact hS2.on (below_drewN (Below.refl _ _) _))
          | (go_at_call 70; (with_reducible refine Calls.quiet_of (F4.out _ ?_)); exact S4.on (below_drewN (Below.refl _ _) _))
          | (go_at_call 70; (with_reducible refine Calls.quiet_of (F8.out _ ?_)); exact S8.on (below_drewN (Below.refl _ _) _))
          | (go_at_call 70; (with_reducible refine Calls.quiet_of (F12.out _ ?_)); exact S12.on (below_drewN (Below.refl _ _) _))
          | (go_at_call 70; (with_reducible refine Calls.quiet_of (F16.out _ ?_)); exact S16.on (below_drewN (Below.refl _ _) _)))))
        refine wpQuiet_nil ?_
        intro w3 hw3
        obtain ⟨nq, rfl⟩ := hw3
        have hrow' : (w2.drewN nq).heap[w.heap.size]? = some (.cells (soaC none) 67 (0, 0)) := hrow
        have b5 := below_drewN b4 nq
        clear r4 r8 r12 r16 S4 S8 S12 S16 F0 F4 F8 F12 F16 hS2 hS1 hS hrow b4
        generalize w2.drewN nq = w4 at *
        obtain ⟨s, hs⟩ : ∃ s : Soa, s = { m := l.take i, r := x.take j, a := four y, b := four (y.drop 4), c := four (y.drop 8), d := four (y.drop 12), e := four (y.drop 16) } := ⟨_, rfl⟩
        rw [← hs] at HSO
        have HSS := Lib.hid hs
        clear hs
        refine wpList_store_row rfl 67 (.tmp 2) (.tmp 47) rfl w.heap.size (soaC (some s)) rfl (by rw [HSS.out]; rfl) 67 _ hrow' (soa_info (soaC_size _)) (by rw [soaC_size, soaC_size]) (soaC_one _) ?_
        go_wp2_with fail
        refine bodyPost_ret (v := .tuple #[.agg (soaC (some s)), .bool true]) (results_soa (g := w.heap.size) rfl rfl (setRow_heap _ _ _ _ _ _ hrow') (soaC_size _)) rfl ?_
        exact ⟨by rw [HSO.out]; rfl, Below.setRow b5 (Nat.le_refl _) _⟩
      · rw [if_neg (by have := HXL.out; omega)] at hsoa
        have HZ := Lib.hid hsoa
        have hne : ((y.length : Int) != 20) = true := by rw [bne_iff_ne]; omega
        clear hsoa
        go_wp2_with (first
          | (refine wpList_store_row rfl 67 (.tmp 2) (.tmp 30) rfl w.heap.size (soaC none) rfl rfl 67 _ hrow (soa_info rfl) rfl (soaC_one none) ?_)
          | fail)
        refine bodyPost_ret (v := .tuple #[.agg (soaC none), .bool false]) (results_soa (g := w.heap.size) rfl rfl (setRow_heap _ _ _ _ _ _ hrow) rfl) rfl ?_
        exact ⟨by rw [HZ.out]; rfl, Below.setRow b4 (Nat.le_refl _) _⟩
end Go.Proofs.Ytbeggckkgaoacaa
namespace Go.Proofs.Ytbeggckkgaoacaa
open Go.RowKit
set_option linter.unusedVariables false
set_option maxRecDepth 100000

theorem soaC_none : soaC none = #[.string ⟨#[]⟩, .string ⟨#[]⟩, .int .i64 0, .int .i64 0, .int .i64 0, .int .i64 0, .int .i64 0] := rfl
theorem canD_far {t : Int} {l : Bs} (h : t < 0 ∨ 65535 < t ∨ 65535 < l.length) : canD t l = false := by unfold canD; rw [if_pos h]
theorem canD_in {t : Int} {l : Bs} (h : ¬ (t < 0 ∨ 65535 < t ∨ 65535 < l.length)) : canD t l = if t = 1 then l.length == 4
  else if t = 28 then l.length == 16
  else if t = 2 ∨ t = 5 ∨ t = 12 then can l
  else if t = 15 then decide (2 < l.length) && can (l.drop 2)
  else if t = 6 then (soa l).isSome
  else if t = 16 then texts l
  else if t = 41 then opts l
  else true := by unfold canD; rw [if_neg h]

set_option maxHeartbeats 4000000 in
set_option maxRecDepth 100000 in
theorem rCanD_any (t : Int) (A : Option Addr) (l : Bs) (c : Nat) (w : World) (hS : Bys w A l) (hc : l.length ≤ c) (hcm : c ≤ 9223372036854775807) : Calls Try.prog 64 #[.int .i64 t, .slice A l.length c] w fun e w' => e = .returned (.bool (canD t l)) ∧ Below w.heap.size w w' := by
  by_cases hfar : t < 0 ∨ 65535 < t ∨ 65535 < l.length
  · have HF := Lib.hid (canD_far hfar)
    by_cases h0 : t < 0
    · clear hfar
      go_enter Try.func64, Try.ntmps64
      go_wp2_with fail
      go_ret
      exact ⟨by rw [HF.out]; rfl, Below.refl _ _⟩
    · by_cases h1 : 65535 < t
      · clear hfar
        go_enter Try.func64, Try.ntmps64
        go_wp2_with fail
        go_ret
        exact ⟨by rw [HF.out]; rfl, Below.refl _ _⟩
      · have h2 : (65535 : Int) < (l.length : Int) := by omega
        clear hfar
        go_enter Try.func64, Try.ntmps64
        go_wp2_with fail
        go_ret
        exact ⟨by rw [HF.out]; rfl, Below.refl _ _⟩
  · have hin := canD_in hfar
    have h0 : ¬ t < 0 := fun h => hfar (Or.inl h)
    have h1 : ¬ 65535 < t := fun h => hfar (Or.inr (Or.inl h))
    have hl : l.length ≤ 65535 := by omega
    have h2 : ¬ (65535 : Int) < (l.length : Int) := by omega
    clear hfar
    by_cases e1 : t = 1
    · subst e1
      rw [if_pos rfl] at hin
      have HI := Lib.hid (hin.trans (show (l.length == 4) = ((l.length : Int) == 4) by rw [Bool.eq_iff_iff]; simp; omega))
      clear hin h0 h1
      go_enter Try.func64, Try.ntmps64
      go_wp2_with fail
      go_ret
      exact ⟨by rw [HI.out]; rfl, Below.refl _ _⟩
    rw [if_neg e1] at hin
    by_cases e28 : t = 28
    · subst e28
      rw [if_pos rfl] at hin
      have HI := Lib.hid (hin.trans (show (l.length == 16) = ((l.length : Int) == 16) by rw [Bool.eq_iff_iff]; simp; omega))
      clear hin h0 h1 e1
      go_enter Try.func64, Try.ntmps64
      go_wp2_with fail
      go_ret
      exact ⟨by rw [HI.out]; rfl, Below.refl _ _⟩
    rw [if_neg e28] at hin
    have T1 : (t == 1) = false := by simp [e1]
    have T28 : (t == 28) = false := by simp [e28]
    clear e1 e28
    by_cases en : t = 2 ∨ t = 5 ∨ t = 12
    · rw [if_pos en] at hin
      have HI := Lib.hid hin
      have hst := Lib.hid (fun W (hW : Bys W A l) => string_bys A l c W hW)
      clear hin
      rcases en with rfl | rfl | rfl
      all_goals
        clear h0 h1 T1 T28
        go_enter Try.func64, Try.ntmps64
        have hs := hst.out w hS
        go_wp2_with fail
        refine (rCan_any l _).mono ?_
        rintro e w1 ⟨rfl, rfl⟩
        go_wp2_with fail
        go_ret
        exact ⟨by rw [HI.out]; rfl, Below.refl _ _⟩
    rw [if_neg en] at hin
    have T2 : (t == 2) = false := by simp; omega
    have T5 : (t == 5) = false := by simp; omega
    have T12 : (t == 12) = false := by simp; omega
    clear en
    by_cases e15 : t = 15
    · subst e15
      rw [if_pos rfl] at hin
      by_cases h3 : 2 < l.length
      · have hi2 : canD 15 l = can (l.drop 2) := by rw [hin]; simp [h3]
        have HI := Lib.hid hi2
        obtain ⟨B, r2, S2, _⟩ := slice_bys A l c 2 2 w hS (by omega) hc rfl
        have hs := string_bys B (l.drop 2) (c - 2) w S2
        obtain ⟨q, hq⟩ : ∃ q, q = l.drop 2 := ⟨_, rfl⟩
        rw [← hq] at r2 hs HI
        have h4 : (2 : Int) < (l.length : Int) := by omega
        clear hin hi2 h0 h1 T1 T28 T2 T5 T12 S2 hq h3
        generalize q.length = z at *
        go_enter Try.func64, Try.ntmps64
        go_wp2_with fail
        refine (rCan_any q _).mono ?_
        rintro e w1 ⟨rfl, rfl⟩
        go_wp2_with fail
        go_ret
        exact ⟨by rw [HI.out]; rfl, Below.refl _ _⟩
      · have hi2 : canD 15 l = false := by rw [hin]; simp [h3]
        have HI := Lib.hid hi2
        have h4 : ¬ (2 : Int) < (l.length : Int) := by omega
        clear hin hi2 h0 h1 T1 T28 T2 T5 T12 h3
        go_enter Try.func64, Try.ntmps64
        go_wp2_with fail
        go_ret
        exact ⟨by rw [HI.out]; rfl, Below.refl _ _⟩
    rw [if_neg e15] at hin
    have T15 : (t == 15) = false := by simp [e15]
    clear e15
    by_cases e6 : t = 6
    · subst e6
      rw [if_pos rfl] at hin
      have HI := Lib.hid hin
      clear hin h0 h1 T1 T28 T2 T5 T12 T15
      go_enter Try.func64, Try.ntmps64
      go_wp2_with fail
      refine (rSOA_any A l c _ hS hc hcm).mono ?_
      rintro e w1 ⟨rfl, b1⟩
      obtain ⟨o, ho⟩ : ∃ o, o = soa l := ⟨_, rfl⟩
      rw [← ho] at HI
      rw [← ho]
      clear ho
      have hrow0 := row_new (w := w1) (k := w1.heap.size) (.cells (soaC none) 67 (0, 0)) rfl
      have bw : Below w.heap.size w (w1.alloc (.cells (soaC none) 67)) := Below.alloc b1 b1.size _
      rw [soaC_none] at hrow0 bw
      go_wp2_with (first
        | (refine wpList_store_row rfl 67 (.tmp 5) (.tmp 52) rfl w1.heap.size (soaC o) rfl rfl 67 _ hrow0 (soa_info (soaC_size _)) (by rw [soaC_size]; rfl) (soaC_one _) ?_)
        | fail)
      go_ret
      exact ⟨by rw [HI.out]; rfl, Below.setRow bw b1.size _⟩
    rw [if_neg e6] at hin
    have T6 : (t == 6) = false := by simp [e6]
    clear e6
    by_cases e16 : t = 16
    · subst e16
      rw [if_pos rfl] at hin
      have HI := Lib.hid hin
      clear hin h0 h1 T1 T28 T2 T5 T12 T15 T6
      go_enter Try.func64, Try.ntmps64
      go_wp2_with fail
      refine (rtexts_any A l c _ hS hc hcm hl).mono ?_
      rintro e w1 ⟨rfl, rfl⟩
      go_wp2_with fail
      go_ret
      exact ⟨by rw [HI.out]; rfl, Below.refl _ _⟩
    rw [if_neg e16] at hin
    have T16 : (t == 16) = false := by simp [e16]
    clear e16
    by_cases e41 : t = 41
    · subst e41
      rw [if_pos rfl] at hin
      have HI := Lib.hid hin
      clear hin h0 h1 T1 T28 T2 T5 T12 T15 T6 T16
      go_enter Try.func64, Try.ntmps64
      go_wp2_with fail
      refine (roptions_any A l c _ hS hc hcm hl).mono ?_
      rintro e w1 ⟨rfl, b1⟩
      go_wp2_with fail
      go_ret
      exact ⟨by rw [HI.out]; rfl, b1⟩
    rw [if_neg e41] at hin
    have T41 : (t == 41) = false := by simp [e41]
    have HI := Lib.hid hin
    clear e41 hin
    go_enter Try.func64, Try.ntmps64
    go_wp2_with fail
    go_ret
    exact ⟨by rw [HI.out]; rfl, Below.refl _ _⟩
end Go.Proofs.Ytbeggckkgaoacaa
