/-
  Data of types, as lists of bytes: a name at the beginning, texts, options, an SOA's data. No program, no memory.
  The document's First, texts, options, four (layer 3).
  The walks of the landed rdata, as plain lists: where a name's walk stops, texts and options from a place on. No program, no memory.
  The landed rdata: areTexts, areOptions, shape, firstName.
-/
import Derived.Test.YtknpkifhkefikaaDoorGa
import Derived.Test.YtknpkifhkefikaaDoorGb
import Derived.Deep.QuietTactic
import Derived.BigQuiet
import Derived.IntWalk
namespace Go.Proofs.YtknpkifhkefikaaDoor
set_option linter.unusedVariables false
set_option maxRecDepth 100000

/-- How many bytes the name takes with which bytes begin, whatever its length. -/
def pre : Bs → Option Nat
  | [] => none
  | k :: r => if k.toNat = 0 then some 1 else if 63 < k.toNat then none else if r.length < k.toNat then none else (pre (r.drop k.toNat)).map (· + (1 + k.toNat))
termination_by l => l.length
decreasing_by simp; omega
def nameLen (b : Bs) : Option Nat := match pre b with | some n => if n ≤ 255 then some n else none | none => none

theorem pre_le : ∀ (m : Nat) {b : Bs} {n : Nat}, b.length ≤ m → pre b = some n → 1 ≤ n ∧ n ≤ b.length
  | _, [], n, _, h => by rw [pre] at h; cases h
  | 0, _ :: _, _, hm, _ => by simp at hm
  | m + 1, k :: r, n, hm, h => by
    rw [pre] at h
    split at h
    · injection h with h; subst h; simp
    · split at h
      · cases h
      · split at h
        · cases h
        · cases hd : pre (r.drop k.toNat) with
          | none => rw [hd] at h; cases h
          | some j =>
            rw [hd] at h
            simp only [Option.map_some, Option.some.injEq] at h
            have := pre_le m (by simp at hm ⊢; omega) hd
            rw [List.length_drop] at this
            rw [List.length_cons]
            omega

theorem labs_pre : ∀ (m : Nat) {b : Bs} {k : Nat}, b.length ≤ m → k ≤ b.length → ((labs (b.take k)).isSome = true ↔ pre b = some k)
  | _, [], k, _, hk => by
    simp at hk
    subst hk
    simp [labs, pre]
  | 0, _ :: _, _, hm, _ => by simp at hm
  | m + 1, c :: r, 0, hm, hk => by
    rw [List.take_zero, labs]
    simp only [Option.isSome_none, Bool.false_eq_true, false_iff]
    intro h
    have := pre_le _ (Nat.le_refl _) h
    omega
  | m + 1, c :: r, k + 1, hm, hk => by
    rw [List.take_succ_cons, labs, pre]
    by_cases h0 : c.toNat = 0
    · rw [if_pos h0, if_pos h0]
      by_cases hr : r.take k = []
      · rw [if_pos hr]
        have : k = 0 := by
          have := congrArg List.length hr
          simp at this hk
          rcases this with h | h
          · exact h
          · subst h; simp at hk; exact hk
        subst this
        simp
      · rw [if_neg hr]
        have : k ≠ 0 := fun e => hr (by rw [e, List.take_zero])
        simp
        omega
    · rw [if_neg h0, if_neg h0]
      by_cases h6 : 63 < c.toNat
      · rw [if_pos h6, if_pos h6]; simp
      · rw [if_neg h6, if_neg h6]
        have hd : (r.take k).drop c.toNat = (r.drop c.toNat).take (k - c.toNat) := by rw [List.drop_take]
        rw [hd]
        by_cases hs : r.length < c.toNat
        · rw [if_pos hs, List.drop_eq_nil_of_le (by omega)]
          simp [labs]
        · rw [if_neg hs]
          by_cases hkc : c.toNat ≤ k
          · have ih := labs_pre m (b := r.drop c.toNat) (k := k - c.toNat) (by simp at hm ⊢; omega) (by simp at hk ⊢; omega)
            rw [Option.isSome_map, ih]
            constructor
            · intro h; rw [h]; simp; omega
            · intro h
              cases hp : pre (r.drop c.toNat) with
              | none => rw [hp] at h; cases h
              | some j => rw [hp] at h; simp at h; rw [show j = k - c.toNat by omega]
          · rw [show k - c.toNat = 0 by omega, List.take_zero, labs]
            simp only [Option.map_none, Option.isSome_none, Bool.false_eq_true, false_iff]
            intro h
            cases hp : pre (r.drop c.toNat) with
            | none => rw [hp] at h; cases h
            | some j =>
              rw [hp] at h
              simp at h
              have := pre_le _ (Nat.le_refl _) hp
              omega

/-- Just one beginning is a name, if one is. -/
theorem can_take {b : Bs} {k : Nat} (hk : k ≤ b.length) : can (b.take k) = true ↔ nameLen b = some k := by
  have h := labs_pre _ (Nat.le_refl b.length) hk
  unfold can nameLen
  rw [Bool.and_eq_true, decide_eq_true_eq, List.length_take, Nat.min_eq_left hk, h]
  constructor
  · rintro ⟨h1, h2⟩; rw [h2]; simp [h1]
  · intro h2
    cases hp : pre b with
    | none => rw [hp] at h2; cases h2
    | some n =>
      rw [hp] at h2
      simp only at h2
      split at h2
      · injection h2 with h2; subst h2; exact ⟨by assumption, rfl⟩
      · cases h2
theorem nameLen_le {b : Bs} {k : Nat} (h : nameLen b = some k) : 1 ≤ k ∧ k ≤ b.length ∧ k ≤ 255 := by
  unfold nameLen at h
  cases hp : pre b with
  | none => rw [hp] at h; cases h
  | some n =>
    rw [hp] at h
    simp only at h
    split at h
    · injection h with h; subst h
      have := pre_le _ (Nat.le_refl _) hp
      exact ⟨this.1, this.2, by assumption⟩
    · cases h
theorem can_nameLen {b : Bs} (h : can b = true) (r : Bs) : nameLen (b ++ r) = some b.length := by
  refine (can_take (b := b ++ r) (k := b.length) (by simp)).1 ?_
  rw [List.take_left]; exact h

/-- Texts, one behind the other: none too. -/
def txs : Bs → Bool
  | [] => true
  | k :: r => if r.length < k.toNat then false else txs (r.drop k.toNat)
termination_by l => l.length
decreasing_by simp; omega
def texts (b : Bs) : Bool := !(b == []) && txs b
/-- Options, one behind the other. -/
def opts (b : Bs) : Bool := match b with
  | [] => true
  | _ :: _ :: h :: l :: r => if r.length < h.toNat * 256 + l.toNat then false else opts (r.drop (h.toNat * 256 + l.toNat))
  | _ => false
termination_by b.length
decreasing_by simp; omega

/-- A number of four bytes. -/
def four (b : Bs) : Nat := (((b.getD 0 0).toNat * 256 + (b.getD 1 0).toNat) * 256 + (b.getD 2 0).toNat) * 256 + (b.getD 3 0).toNat
def fourB (n : Nat) : Bs := [UInt8.ofNat (n / 16777216), UInt8.ofNat (n / 65536), UInt8.ofNat (n / 256), UInt8.ofNat n]
structure Soa where
  m : Bs
  r : Bs
  a : Nat
  b : Nat
  c : Nat
  d : Nat
  e : Nat
/-- What the data of an SOA say. -/
def soa (b : Bs) : Option Soa := match nameLen b with
  | none => none
  | some i => match nameLen (b.drop i) with
    | none => none
    | some j => if b.length = i + j + 20 then some ⟨b.take i, (b.drop i).take j, four (b.drop (i + j)), four (b.drop (i + j + 4)), four (b.drop (i + j + 8)), four (b.drop (i + j + 12)), four (b.drop (i + j + 16))⟩ else none

def isName (t : Int) : Bool := t == 2 || t == 5 || t == 12
def canD (t : Int) (b : Bs) : Bool :=
  if t < 0 ∨ 65535 < t ∨ 65535 < b.length then false
  else if t = 1 then b.length == 4
  else if t = 28 then b.length == 16
  else if t = 2 ∨ t = 5 ∨ t = 12 then can b
  else if t = 15 then decide (2 < b.length) && can (b.drop 2)
  else if t = 6 then (soa b).isSome
  else if t = 16 then texts b
  else if t = 41 then opts b
  else true
def namesD (t : Int) (b : Bs) : List Bs :=
  if canD t b then
    (if t = 2 ∨ t = 5 ∨ t = 12 then [b]
    else if t = 15 then [b.drop 2]
    else if t = 6 then (match soa b with | some s => [s.m, s.r] | none => [])
    else [])
  else []
end Go.Proofs.YtknpkifhkefikaaDoor
namespace Go.Proofs.YtknpkifhkefikaaDoor
open Go.RowKit
set_option linter.unusedVariables false
set_option maxRecDepth 100000

/-- What First answers. -/
def FirstPost (w : World) (l : Bs) (e : Ending) (w' : World) : Prop :=
  (nameLen l = none ∧ e = .returned (.tuple #[.string (bs []), .slice none 0 0, .bool false]) ∧ Below w.heap.size w w') ∨
  (∃ k A c, nameLen l = some k ∧ e = .returned (.tuple #[.string (bs (l.take k)), .slice A (l.drop k).length c, .bool true]) ∧ Bys w' A (l.drop k) ∧ (l.drop k).length ≤ c ∧ c ≤ 9223372036854775807 ∧ Below w.heap.size w w')

set_option maxHeartbeats 2000000 in
set_option maxRecDepth 100000 in
theorem rFirst_any (A : Option Addr) (l : Bs) (c : Nat) (w : World) (hS : Bys w A l) (hc : l.length ≤ c) (hcm : c ≤ 9223372036854775807) : Calls Tryd.prog 115 #[.slice A l.length c] w (FirstPost w l) := by
  go_enter Tryd.func115, Tryd.ntmps115
  go_wp2_with fail
  go_loop [5] (fun v => ∃ k : Nat, v = .int .i64 k ∧ 1 ≤ k ∧ k ≤ 256 ∧ Hid (∀ j, j < k → j ≤ l.length → nameLen l ≠ some j)) (fun v => 257 - (intOf v).toNat)
  case atStart => exact ⟨1, rfl, by omega, by omega, Lib.hid (fun j hj _ h => by have := nameLen_le h; omega)⟩
  case round =>
    obtain ⟨k, rfl, hk1, hk2, hN⟩ := hrel
    by_cases hin : k ≤ l.length ∧ k ≤ 255
    · obtain ⟨hl, h255⟩ := hin
      have t1 : (k : Int) ≤ (l.length : Int) := by omega
      have t2 : (k : Int) ≤ 255 := by omega
      have hpre := slice_pre A l c k k hl hc rfl
      have hstr := fun n => string_bys A (l.take k) c (w.drewN n) ((hS.pre k).on (below_drewN (Below.refl _ _) n))
      have hstr0 := string_bys A (l.take k) c w (hS.pre k)
      obtain ⟨A', hrun, hS', hc'⟩ := slice_bys A l c k k w hS hl hc rfl
      have RC := Lib.hid (fun W => rCan_any (l.take k) W)
      have HK := Lib.hid (can_take hl)
      rw [show (l.take k).length = k by rw [List.length_take]; omega] at hpre hstr hstr0
      obtain ⟨x, hx⟩ : ∃ x, x = l.take k := ⟨_, rfl⟩
      obtain ⟨y, hy⟩ : ∃ y, y = l.drop k := ⟨_, rfl⟩
      obtain ⟨c', hce⟩ : ∃ c', c' = c - k := ⟨_, rfl⟩
      rw [← hx] at hstr hstr0 RC HK
      rw [← hy, ← hce] at hrun hc'
      rw [← hy] at hS'
      have HX := Lib.hid hx
      have HY := Lib.hid hy
      have hcm' : c' ≤ 9223372036854775807 := by omega
      clear hx hy hce
      cases hcan : can x with
      | true =>
        have hn := HK.out.1 hcan
        have HN := Lib.hid hn
        rw [hcan] at RC
        clear hcan hn HK
        go_wp2_with fail
        refine (RC.out _).mono ?_
        rintro e w1 ⟨rfl, rfl⟩
        go_wp2_with fail
        go_quiet (fail)
        go_wp2_with fail
        go_ret3
        exact .inr ⟨k, A', c', HN.out, by rw [← HX.out, ← HY.out]; rfl, by rw [← HY.out]; exact hS', by rw [← HY.out]; exact hc', hcm', below_drewN (Below.refl _ _) _⟩
      | false =>
        have hno : nameLen l ≠ some k := fun h => by rw [HK.out.2 h] at hcan; cases hcan
        have hN2 := Lib.hid (fun j hj hjl => by
          rcases Nat.lt_or_ge j k with h | h
          · exact hN.out j h hjl
          · rw [show j = k by omega]; exact hno : ∀ j, j < k + 1 → j ≤ l.length → nameLen l ≠ some j)
        rw [hcan] at RC
        clear hcan HK hno hN
        go_wp2_with fail
        refine (RC.out _).mono ?_
        rintro e w1 ⟨rfl, rfl⟩
        go_wp2_with fail
        go_round
        case rel => exact ⟨k + 1, by go_num, by omega, by omega, hN2⟩
        case measure => simp [intOf]; omega
    · have hnone : nameLen l = none := by
        cases h : nameLen l with
        | none => rfl
        | some j =>
          have := nameLen_le h
          exact absurd h (hN.out j (by omega) (by omega))
      have HN := Lib.hid hnone
      clear hnone hN
      by_cases h1 : (k : Int) ≤ (l.length : Int)
      · have h2 : ¬ (k : Int) ≤ 255 := by omega
        go_wp2_with fail
        go_ret3
        exact .inl ⟨HN.out, rfl, Below.refl _ _⟩
      · go_wp2_with fail
        go_ret3
        exact .inl ⟨HN.out, rfl, Below.refl _ _⟩

theorem txs_cons (k : UInt8) (r : Bs) : txs (k :: r) = if r.length < k.toNat then false else txs (r.drop k.toNat) := by rw [txs]
theorem txs_nil : txs [] = true := by rw [txs]

set_option maxHeartbeats 2000000 in
set_option maxRecDepth 100000 in
theorem rtexts_any (A : Option Addr) (l : Bs) (c : Nat) (w : World) (hS : Bys w A l) (hc : l.length ≤ c) (hcm : c ≤ 9223372036854775807) (hl : l.length ≤ 65535) : Calls Tryd.prog 84 #[.slice A l.length c] w fun e w' => e = .returned (.bool (texts l)) ∧ w = w' := by
  cases l with
  | nil =>
    go_enter Tryd.func84, Tryd.ntmps84
    go_wp2_with fail
    go_ret
    exact ⟨rfl, rfl⟩
  | cons b0 r0 =>
    have ht : texts (b0 :: r0) = txs (b0 :: r0) := by unfold texts; simp
    rw [ht]
    have hz : (((b0 :: r0).length : Int) == 0) = false := by rw [beq_eq_false_iff_ne]; simp; omega
    clear ht
    generalize b0 :: r0 = l at *
    go_enter Tryd.func84, Tryd.ntmps84
    go_wp2_with fail
    go_loop [0] (fun v => ∃ (B : Option Addr) (m : Bs) (d : Nat), v = .slice B m.length d ∧ Bys w B m ∧ m.length ≤ d ∧ m.length ≤ 65535 ∧ Hid (txs l = txs m)) (fun v => match v with | .slice _ n _ => n | _ => 0)
    case atStart => exact ⟨A, l, c, rfl, hS, hc, hl, Lib.hid rfl⟩
    case round =>
      clear hz hS hc hl hcm
      obtain ⟨B, m, d, rfl, hS, hc, hl, hT⟩ := hrel
      cases m with
      | nil =>
        have HT := Lib.hid (hT.out.trans txs_nil)
        clear hT
        go_wp2_with fail
        go_ret
        exact ⟨by rw [HT.out]; rfl, rfl⟩
      | cons k r =>
        have hT2 := hT.out
        rw [txs_cons] at hT2
        obtain ⟨g, off, rfl, hcs⟩ := hS (by simp)
        have h0 : w.cell? ⟨g, off, none⟩ = some (.int .u8 k.toNat) := hcs 0 (by simp)
        have hkt := k.toNat_lt
        have hlen : (k :: r).length = r.length + 1 := rfl
        have hpos : (0 : Int) < ((k :: r).length : Int) := by omega
        by_cases hs : r.length < k.toNat
        · rw [if_pos hs] at hT2
          have HT := Lib.hid hT2
          have h1 : ((k :: r).length : Int) < 1 + (k.toNat : Int) := by omega
          clear hT hT2 hcs hlen hs
          generalize k.toNat = m at *
          generalize (k :: r).length = n at *
          go_wp2_with fail
          go_ret
          exact ⟨by rw [HT.out]; rfl, rfl⟩
        · rw [if_neg hs] at hT2
          have HT := Lib.hid hT2
          have h1 : ¬ ((k :: r).length : Int) < 1 + (k.toNat : Int) := by omega
          obtain ⟨B', hrun, hS', hc'⟩ := slice_bys (some ⟨g, off, none⟩) (k :: r) d (1 + k.toNat) (1 + (k.toNat : Int)) w hS (by omega) hc (by omega)
          have hd : (k :: r).drop (1 + k.toNat) = r.drop k.toNat := by rw [Nat.add_comm]; rfl
          rw [hd] at hrun hS' hc'
          have hdl : (r.drop k.toNat).length = r.length - k.toNat := List.length_drop
          have HL := Lib.hid hdl
          have hle2 : (r.drop k.toNat).length ≤ 65535 := by omega
          have hsh : (r.drop k.toNat).length < (k :: r).length := by omega
          clear hT hT2 hcs hS hd hdl hs hc hlen
          generalize r.drop k.toNat = q at *
          generalize d - (1 + k.toNat) = d' at *
          generalize hkm : k.toNat = m at *
          clear hkm
          generalize (k :: r).length = n at *
          go_wp2_with fail
          go_round
          case rel => exact ⟨B', q, d', rfl, hS', hc', hle2, HT⟩
          case measure => simp; omega

theorem opts_nil : opts [] = true := by rw [opts]
theorem opts_short {b : Bs} (h : b ≠ []) (h4 : b.length < 4) : opts b = false := by
  match b, h, h4 with
  | [_], _, _ => simp [opts]
  | [_, _], _, _ => simp [opts]
  | [_, _, _], _, _ => simp [opts]
  | _ :: _ :: _ :: _ :: _, _, h4 => simp at h4; omega
theorem opts_cons (a b h l : UInt8) (r : Bs) : opts (a :: b :: h :: l :: r) = if r.length < h.toNat * 256 + l.toNat then false else opts (r.drop (h.toNat * 256 + l.toNat)) := by rw [opts]

set_option maxHeartbeats 2000000 in
set_option maxRecDepth 100000 in
theorem roptions_any (A : Option Addr) (l : Bs) (c : Nat) (w : World) (hS : Bys w A l) (hc : l.length ≤ c) (hcm : c ≤ 9223372036854775807) (hl : l.length ≤ 65535) : Calls Tryd.prog 85 #[.slice A l.length c] w fun e w' => e = .returned (.bool (opts l)) ∧ Below w.heap.size w w' := by
  go_enter Tryd.func85, Tryd.ntmps85
  go_wp2_with fail
  go_loopw [0] (fun v wr => ∃ (B : Option Addr) (m : Bs) (d n : Nat), wr = w.drewN n ∧ v = .slice B m.length d ∧ Bys w B m ∧ m.length ≤ d ∧ m.length ≤ 65535 ∧ Hid (opts l = opts m)) (fun v _ => match v with | .slice _ n _ => n | _ => 0)
  case atStart => exact ⟨A, l, c, 0, rfl, rfl, hS, hc, hl, Lib.hid rfl⟩
  case round =>
    clear hS hc hl hcm
    obtain ⟨B, m, d, n, rfl, rfl, hS, hc, hl, hT⟩ := hrel
    by_cases hnil : m = []
    · subst hnil
      have HT := Lib.hid (hT.out.trans opts_nil)
      clear hT
      go_wp2_with fail
      go_ret
      exact ⟨by rw [HT.out]; rfl, below_drewN (Below.refl _ _) _⟩
    · have hpos : (0 : Int) < (m.length : Int) := by have := List.length_pos_iff.2 hnil; omega
      by_cases h4 : m.length < 4
      · have HT := Lib.hid (hT.out.trans (opts_short hnil h4))
        have h4' : (m.length : Int) < 4 := by omega
        clear hT hnil h4
        go_wp2_with fail
        go_ret
        exact ⟨by rw [HT.out]; rfl, below_drewN (Below.refl _ _) _⟩
      · match m, hnil, h4 with
        | [], h, _ => exact absurd rfl h
        | [_], _, h => exact absurd (by simp) h
        | [_, _], _, h => exact absurd (by simp) h
        | [_, _, _], _, h => exact absurd (by simp) h
        | a :: b :: hh :: ll :: r, _, _ =>
          have hT2 := hT.out
          rw [opts_cons] at hT2
          obtain ⟨g, off, rfl, hcs⟩ := hS (by simp)
          have y2 : w.cell? ⟨g, off + 2, none⟩ = some (.int .u8 hh.toNat) := hcs 2 (by simp)
          have y3 : w.cell? ⟨g, off + 3, none⟩ = some (.int .u8 ll.toNat) := hcs 3 (by simp)
          have t1 := hh.toNat_lt
          have t2 := ll.toNat_lt
          have hlen : (a :: b :: hh :: ll :: r).length = r.length + 4 := rfl
          have h4' : ¬ ((a :: b :: hh :: ll :: r).length : Int) < 4 := by omega
          have p2 : (2 : Int) < ((a :: b :: hh :: ll :: r).length : Int) := by omega
          have p3 : (3 : Int) < ((a :: b :: hh :: ll :: r).length : Int) := by omega
          obtain ⟨K, hK⟩ : ∃ K, K = hh.toNat * 256 + ll.toNat := ⟨_, rfl⟩
          have hKi : (K : Int) = (hh.toNat : Int) * 256 + (ll.toNat : Int) := by omega
          rw [← hK] at hT2
          have W1 : Hid (IntKind.i64.wrap ((hh.toNat : Int) * 256) = (hh.toNat : Int) * 256 ∧ IntKind.i64.wrap ((hh.toNat : Int) * 256 + (ll.toNat : Int)) = (hh.toNat : Int) * 256 + (ll.toNat : Int) ∧ IntKind.i64.wrap (hh.toNat : Int) = (hh.toNat : Int) ∧ IntKind.i64.wrap (ll.toNat : Int) = (ll.toNat : Int)) :=
            Lib.hid ⟨IntWalk.i64_in _ (by omega), IntWalk.i64_in _ (by omega), IntWalk.i64_in _ (by omega), IntWalk.i64_in _ (by omega)⟩
          have HK := Lib.hid hKi
          have hKb : K ≤ 65535 := by omega
          by_cases hs : r.length < K
          · rw [if_pos hs] at hT2
            have HT := Lib.hid hT2
            have h1 : ((a :: b :: hh :: ll :: r).length : Int) < 4 + (K : Int) := by omega
            clear hT hT2 hcs hlen hs hK hKi
            generalize (a :: b :: hh :: ll :: r).length = z at *
            generalize hh.toNat = m1 at *
            generalize ll.toNat = m2 at *
            go_wp2_with fail
            obtain ⟨q1, q2, q3, q4⟩ := W1.out
            go_quiet (fail)
            clear q1 q2 q3 q4 W1
            rw [← HK.out]
            go_wp2_with fail
            go_ret
            exact ⟨by rw [HT.out]; rfl, below_drewN (Below.refl _ _) _⟩
          · rw [if_neg hs] at hT2
            have HT := Lib.hid hT2
            have h1 : ¬ ((a :: b :: hh :: ll :: r).length : Int) < 4 + (K : Int) := by omega
            obtain ⟨B', hrun, hS', hc'⟩ := slice_bys (some ⟨g, off, none⟩) (a :: b :: hh :: ll :: r) d (4 + K) (4 + (K : Int)) w hS (by omega) hc (by omega)
            have hd : (a :: b :: hh :: ll :: r).drop (4 + K) = r.drop K := by rw [Nat.add_comm]; rfl
            rw [hd] at hrun hS' hc'
            have hdl : (r.drop K).length = r.length - K := List.length_drop
            have hle2 : (r.drop K).length ≤ 65535 := by omega
            have hsh : (r.drop K).length < (a :: b :: hh :: ll :: r).length := by omega
            clear hT hT2 hcs hS hd hdl hs hc hlen hK hKi
            generalize r.drop K = q at *
            generalize d - (4 + K) = d' at *
            generalize (a :: b :: hh :: ll :: r).length = z at *
            generalize hh.toNat = m1 at *
            generalize ll.toNat = m2 at *
            go_wp2_with fail
            obtain ⟨q1, q2, q3, q4⟩ := W1.out
            go_quiet (fail)
            clear q1 q2 q3 q4 W1
            rw [← HK.out]
            go_wp2_with fail
            go_roundw
            case rel => exact ⟨B', q, d', _, rfl, rfl, hS', hc', hle2, HT⟩
            case measure => simp; omega

set_option maxHeartbeats 2000000 in
set_option maxRecDepth 100000 in
theorem rfour_any (A : Option Addr) (l : Bs) (n c : Nat) (w : World) (hS : Bys w A l) (hn : n = l.length) (h4 : 4 ≤ l.length) : Calls Tryd.prog 116 #[.slice A n c] w fun e w' => e = .returned (.int .i64 (four l)) ∧ ∃ k, w' = w.drewN k := by
  obtain ⟨g, off, rfl, hcs⟩ := hS (by omega)
  have y0 := hcs 0 (by omega)
  have y1 := hcs 1 (by omega)
  have y2 := hcs 2 (by omega)
  have y3 := hcs 3 (by omega)
  have t0 := (l[0]).toNat_lt
  have t1 := (l[1]).toNat_lt
  have t2 := (l[2]).toNat_lt
  have t3 := (l[3]).toNat_lt
  have hf : four l = (((l[0]).toNat * 256 + (l[1]).toNat) * 256 + (l[2]).toNat) * 256 + (l[3]).toNat := by
    unfold four
    simp [List.getD_eq_getElem?_getD, List.getElem?_eq_getElem (show 0 < l.length by omega), List.getElem?_eq_getElem (show 1 < l.length by omega), List.getElem?_eq_getElem (show 2 < l.length by omega), List.getElem?_eq_getElem (show 3 < l.length by omega)]
  rw [Nat.add_zero] at y0
  generalize (l[0]).toNat = a0 at *
  generalize (l[1]).toNat = a1 at *
  generalize (l[2]).toNat = a2 at *
  generalize (l[3]).toNat = a3 at *
  have hfi : (four l : Int) = (((a0 : Int) * 256 + (a1 : Int)) * 256 + (a2 : Int)) * 256 + (a3 : Int) := by omega
  have HF := Lib.hid hfi
  have n0 : (0 : Int) < (n : Int) := by omega
  have n1 : (1 : Int) < (n : Int) := by omega
  have n2 : (2 : Int) < (n : Int) := by omega
  have n3 : (3 : Int) < (n : Int) := by omega
  have q1 : IntKind.i64.wrap (a0 : Int) = (a0 : Int) := IntWalk.i64_in _ (by omega)
  have q2 : IntKind.i64.wrap (a1 : Int) = (a1 : Int) := IntWalk.i64_in _ (by omega)
  have q3 : IntKind.i64.wrap (a2 : Int) = (a2 : Int) := IntWalk.i64_in _ (by omega)
  have q4 : IntKind.i64.wrap (a3 : Int) = (a3 : Int) := IntWalk.i64_in _ (by omega)
  have q5 : IntKind.i64.wrap ((a0 : Int) * 256) = (a0 : Int) * 256 := IntWalk.i64_in _ (by omega)
  have q6 : IntKind.i64.wrap ((a0 : Int) * 256 + (a1 : Int)) = (a0 : Int) * 256 + (a1 : Int) := IntWalk.i64_in _ (by omega)
  have q7 : IntKind.i64.wrap (((a0 : Int) * 256 + (a1 : Int)) * 256) = ((a0 : Int) * 256 + (a1 : Int)) * 256 := IntWalk.i64_in _ (by omega)
  have q8 : IntKind.i64.wrap (((a0 : Int) * 256 + (a1 : Int)) * 256 + (a2 : Int)) = ((a0 : Int) * 256 + (a1 : Int)) * 256 + (a2 : Int) := IntWalk.i64_in _ (by omega)
  have q9 : IntKind.i64.wrap ((((a0 : Int) * 256 + (a1 : Int)) * 256 + (a2 : Int)) * 256) = (((a0 : Int) * 256 + (a1 : Int)) * 256 + (a2 : Int)) * 256 := IntWalk.i64_in _ (by omega)
  have q10 : IntKind.i64.wrap ((((a0 : Int) * 256 + (a1 : Int)) * 256 + (a2 : Int)) * 256 + (a3 : Int)) = (((a0 : Int) * 256 + (a1 : Int)) * 256 + (a2 : Int)) * 256 + (a3 : Int) := IntWalk.i64_in _ (by omega)
  clear hf hfi hn h4 hcs hS
  go_enter Tryd.func116, Tryd.ntmps116
  go_wp2_with fail
  go_quiet (fail)
  go_wp2_with fail
  go_ret
  exact ⟨by rw [HF.out]; rfl, _, rfl⟩
end Go.Proofs.YtknpkifhkefikaaDoor
namespace Go.Proofs.YtknpkifhkefikaaDoor
set_option linter.unusedVariables false
set_option maxRecDepth 100000

/-- The name at the beginning; empty, if there is none. -/
def first (b : Bs) : Bs := match nameLen b with | some k => b.take k | none => []
/-- The place at which a walk from label to label stops. -/
def stop : Bs → Nat
  | [] => 0
  | k :: r => if k.toNat = 0 then 0 else 1 + k.toNat + stop (r.drop k.toNat)
termination_by l => l.length
decreasing_by simp; omega

theorem pre_stop : ∀ (m : Nat) {b : Bs} {n : Nat}, b.length ≤ m → pre b = some n → stop b + 1 = n
  | _, [], n, _, h => by rw [pre] at h; cases h
  | 0, _ :: _, _, hm, _ => by simp at hm
  | m + 1, k :: r, n, hm, h => by
    rw [pre] at h
    rw [stop]
    split at h
    · rename_i h0
      rw [if_pos h0]
      injection h with h
    · rename_i h0
      rw [if_neg h0]
      split at h
      · cases h
      · split at h
        · cases h
        · cases hd : pre (r.drop k.toNat) with
          | none => rw [hd] at h; cases h
          | some j =>
            rw [hd] at h
            simp only [Option.map_some, Option.some.injEq] at h
            have := pre_stop m (by simp at hm ⊢; omega) hd
            omega
theorem nameLen_stop {b : Bs} {k : Nat} (h : nameLen b = some k) : stop b + 1 = k := by
  unfold nameLen at h
  cases hp : pre b with
  | none => rw [hp] at h; cases h
  | some n =>
    rw [hp] at h
    simp only at h
    split at h
    · injection h with h; subst h
      exact pre_stop _ (Nat.le_refl _) hp
    · cases h
theorem stop_step {b : Bs} {a : Nat} (h : a < b.length) (h0 : (b[a]).toNat ≠ 0) : stop (b.drop a) = 1 + (b[a]).toNat + stop (b.drop (a + 1 + (b[a]).toNat)) := by
  rw [List.drop_eq_getElem_cons h, stop, if_neg h0, List.drop_drop]
theorem stop_zero {b : Bs} {a : Nat} (h : a < b.length) (h0 : (b[a]).toNat = 0) : stop (b.drop a) = 0 := by
  rw [List.drop_eq_getElem_cons h, stop, if_pos h0]
theorem stop_end {b : Bs} {a : Nat} (h : b.length ≤ a) : stop (b.drop a) = 0 := by
  rw [List.drop_eq_nil_of_le h, stop]
theorem first_far {b : Bs} {a : Nat} (hs : stop b = a) (h : b.length ≤ a ∨ 255 ≤ a) : first b = [] := by
  unfold first
  cases hn : nameLen b with
  | none => rfl
  | some k =>
    have := nameLen_stop hn
    have := nameLen_le hn
    omega
theorem first_can {b : Bs} {a : Nat} (hs : stop b = a) (h : a < b.length) (hc : can (b.take (a + 1)) = true) : first b = b.take (a + 1) := by
  unfold first
  rw [(can_take (by omega)).1 hc]
theorem first_not {b : Bs} {a : Nat} (hs : stop b = a) (h : a < b.length) (hc : can (b.take (a + 1)) = false) : first b = [] := by
  unfold first
  cases hn : nameLen b with
  | none => rfl
  | some k =>
    have := nameLen_stop hn
    obtain rfl : k = a + 1 := by omega
    rw [(can_take (by omega)).2 hn] at hc
    cases hc
theorem first_none {b : Bs} (h : nameLen b = none) : first b = [] := by unfold first; rw [h]
theorem first_some {b : Bs} {k : Nat} (h : nameLen b = some k) : first b = b.take k := by unfold first; rw [h]
theorem first_len {b : Bs} {k : Nat} (h : nameLen b = some k) : (first b).length = k := by
  rw [first_some h, List.length_take]
  have := nameLen_le h
  omega

/-- Texts from a place on. -/
def txsAt (l : Bs) (a : Nat) : Bool := decide (a ≤ l.length) && txs (l.drop a)
theorem txsAt_zero (l : Bs) : txsAt l 0 = txs l := by simp [txsAt]
theorem txsAt_step {l : Bs} {a : Nat} (h : a < l.length) : txsAt l a = txsAt l (a + 1 + (l[a]).toNat) := by
  unfold txsAt
  rw [List.drop_eq_getElem_cons h, txs_cons, List.drop_drop, List.length_drop]
  by_cases hs : l.length - (a + 1) < (l[a]).toNat
  · rw [if_pos hs]
    have : ¬ a + 1 + (l[a]).toNat ≤ l.length := by omega
    simp [this]
  · rw [if_neg hs]
    have h1 : a + 1 + (l[a]).toNat ≤ l.length := by omega
    have h2 : a ≤ l.length := by omega
    simp [h1, h2]
theorem txsAt_end {l : Bs} {a : Nat} (h : l.length ≤ a) : txsAt l a = decide (a = l.length) := by
  unfold txsAt
  rw [List.drop_eq_nil_of_le h, txs_nil, Bool.and_true]
  rw [Bool.eq_iff_iff]; simp; omega

/-- Options from a place on. -/
def optsAt (l : Bs) (a : Nat) : Bool := decide (a ≤ l.length) && opts (l.drop a)
theorem optsAt_zero (l : Bs) : optsAt l 0 = opts l := by simp [optsAt]
theorem optsAt_step {l : Bs} {a : Nat} (h : a + 4 ≤ l.length) : optsAt l a = optsAt l (a + 4 + ((l[a + 2]).toNat * 256 + (l[a + 3]).toNat)) := by
  unfold optsAt
  rw [List.drop_eq_getElem_cons (show a < l.length by omega), List.drop_eq_getElem_cons (show a + 1 < l.length by omega), List.drop_eq_getElem_cons (show a + 1 + 1 < l.length by omega), List.drop_eq_getElem_cons (show a + 1 + 1 + 1 < l.length by omega), opts_cons, List.drop_drop, List.length_drop]
  simp only [Nat.add_assoc, Nat.reduceAdd]
  generalize (l[a + 2]).toNat * 256 + (l[a + 3]).toNat = K
  by_cases hs : l.length - (a + 4) < K
  · rw [if_pos hs]
    have : ¬ a + (4 + K) ≤ l.length := by omega
    simp [this]
  · rw [if_neg hs]
    have h1 : a + (4 + K) ≤ l.length := by omega
    have h2 : a ≤ l.length := by omega
    simp [h1, h2]
theorem optsAt_end {l : Bs} {a : Nat} (h : l.length < a + 4) : optsAt l a = decide (a = l.length) := by
  unfold optsAt
  by_cases h1 : a ≤ l.length
  · have hlen : (l.drop a).length = l.length - a := List.length_drop
    by_cases h2 : a = l.length
    · subst h2
      rw [List.drop_eq_nil_of_le (Nat.le_refl _)]
      simp [opts]
    · have : opts (l.drop a) = false := by
        match hm : l.drop a with
        | [] => rw [hm] at hlen; simp at hlen; omega
        | [_] => simp [opts]
        | [_, _] => simp [opts]
        | [_, _, _] => simp [opts]
        | _ :: _ :: _ :: _ :: r => rw [hm] at hlen; simp at hlen; omega
      rw [this]; simp [h2]
  · simp [h1]; omega
end Go.Proofs.YtknpkifhkefikaaDoor
namespace Go.Proofs.YtknpkifhkefikaaDoor
open Go.RowKit
set_option linter.unusedVariables false
set_option maxRecDepth 100000

set_option maxHeartbeats 2000000 in
set_option maxRecDepth 100000 in
theorem areTexts_any (A : Option Addr) (l : Bs) (c : Nat) (w : World) (hS : Bys w A l) (hl : l.length ≤ 65535) : Calls Tryd.prog 79 #[.slice A l.length c] w fun e w' => e = .returned (.bool (txs l)) ∧ w = w' := by
  have H0 : Hid (txs l = txsAt l 0) := Lib.hid (txsAt_zero l).symm
  go_enter Tryd.func79, Tryd.ntmps79
  go_wp2_with fail
  go_loop [3] (fun v => ∃ a : Nat, v = .int .i64 a ∧ a ≤ l.length + 255 ∧ Hid (txs l = txsAt l a)) (fun v => l.length + 256 - (intOf v).toNat)
  case atStart => exact ⟨0, rfl, by omega, H0⟩
  case round =>
    clear H0
    obtain ⟨a, rfl, ha, hT⟩ := hrel
    by_cases hlt : a < l.length
    · obtain ⟨g, off, rfl, hcs⟩ := hS (by omega)
      have y := hcs a hlt
      have ht := (l[a]).toNat_lt
      have HT := Lib.hid (hT.out.trans (txsAt_step hlt))
      clear hT hcs hS
      generalize (l[a]).toNat = m at *
      have hlt' : (a : Int) < (l.length : Int) := by omega
      go_wp2_with fail
      go_round
      case rel => exact ⟨a + 1 + m, by go_num, by omega, HT⟩
      case measure => simp [intOf]; omega
    · have HT := Lib.hid (hT.out.trans (txsAt_end (by omega)))
      have hlt' : ¬ (a : Int) < (l.length : Int) := by omega
      clear hT hS
      have hb : ((a : Int) == (l.length : Int)) = decide (a = l.length) := by rw [Bool.eq_iff_iff]; simp; omega
      rw [← hb] at HT
      clear hb
      go_wp2_with fail
      go_ret
      exact ⟨by rw [HT.out]; rfl, rfl⟩

set_option maxHeartbeats 2000000 in
set_option maxRecDepth 100000 in
theorem areOptions_any (A : Option Addr) (l : Bs) (c : Nat) (w : World) (hS : Bys w A l) (hl : l.length ≤ 65535) : Calls Tryd.prog 80 #[.slice A l.length c] w fun e w' => e = .returned (.bool (opts l)) ∧ Below w.heap.size w w' := by
  have H0 : Hid (opts l = optsAt l 0) := Lib.hid (optsAt_zero l).symm
  go_enter Tryd.func80, Tryd.ntmps80
  go_wp2_with fail
  go_loopw [3] (fun v wr => ∃ a : Nat, Below w.heap.size w wr ∧ v = .int .i64 a ∧ a ≤ l.length + 65535 ∧ Hid (opts l = optsAt l a)) (fun v _ => l.length + 65536 - (intOf v).toNat)
  case atStart => exact ⟨0, Below.refl _ _, rfl, by omega, H0⟩
  case round =>
    clear H0
    obtain ⟨a, hB, rfl, ha, hT⟩ := hrel
    by_cases hlt : a + 4 ≤ l.length
    · obtain ⟨g, off, rfl, hcs⟩ := (hS.on hB) (by omega)
      have y2 := hcs (a + 2) (by omega)
      have y3 := hcs (a + 3) (by omega)
      have t2 := (l[a + 2]).toNat_lt
      have t3 := (l[a + 3]).toNat_lt
      have HT := Lib.hid (hT.out.trans (optsAt_step hlt))
      clear hT hcs hS
      generalize (l[a + 2]).toNat = m1 at *
      generalize (l[a + 3]).toNat = m2 at *
      have h0 : (a : Int) + 4 ≤ (l.length : Int) := by omega
      have h2 : (a : Int) + 2 < (l.length : Int) := by omega
      have h3 : (a : Int) + 3 < (l.length : Int) := by omega
      go_wp2_with fail
      go_quiet (fail)
      go_wp2_with fail
      go_roundw
      case rel => exact ⟨a + 4 + (m1 * 256 + m2), below_drewN hB _, by go_num, by omega, HT⟩
      case measure => simp [intOf]; omega
    · have HT := Lib.hid (hT.out.trans (optsAt_end (by omega)))
      have hlt' : ¬ (a : Int) + 4 ≤ (l.length : Int) := by omega
      clear hT hS
      have hb : ((a : Int) == (l.length : Int)) = decide (a = l.length) := by rw [Bool.eq_iff_iff]; simp; omega
      rw [← hb] at HT
      clear hb
      go_wp2_with fail
      go_ret
      exact ⟨by rw [HT.out]; rfl, hB⟩

/-- What stands ahead of the names, how many names, what stands behind. -/
def shapeP (t : Int) : Nat × Nat × Nat := if t = 2 ∨ t = 5 ∨ t = 12 then (0, 1, 0) else if t = 15 then (2, 1, 0) else if t = 6 then (0, 2, 20) else (0, 0, 0)
set_option maxHeartbeats 2000000 in
set_option maxRecDepth 100000 in
theorem shape_any (t : Int) (w : World) : Calls Tryd.prog 113 #[.int .i64 t] w fun e w' => e = .returned (.tuple #[.int .i64 (shapeP t).1, .int .i64 (shapeP t).2.1, .int .i64 (shapeP t).2.2]) ∧ w = w' := by
  by_cases en : t = 2 ∨ t = 5 ∨ t = 12
  · have HI : Hid (shapeP t = (0, 1, 0)) := Lib.hid (by unfold shapeP; rw [if_pos en])
    rcases en with rfl | rfl | rfl
    all_goals
      go_enter Tryd.func113, Tryd.ntmps113
      go_wp2_with fail
      go_ret3
      exact ⟨by rw [HI.out]; rfl, rfl⟩
  have T2 : (t == 2) = false := by simp; omega
  have T5 : (t == 5) = false := by simp; omega
  have T12 : (t == 12) = false := by simp; omega
  by_cases e15 : t = 15
  · subst e15
    go_enter Tryd.func113, Tryd.ntmps113
    go_wp2_with fail
    go_ret3
    exact ⟨rfl, rfl⟩
  by_cases e6 : t = 6
  · subst e6
    go_enter Tryd.func113, Tryd.ntmps113
    go_wp2_with fail
    go_ret3
    exact ⟨rfl, rfl⟩
  have HI : Hid (shapeP t = (0, 0, 0)) := Lib.hid (by unfold shapeP; rw [if_neg en, if_neg e15, if_neg e6])
  have T15 : (t == 15) = false := by simp [e15]
  have T6 : (t == 6) = false := by simp [e6]
  clear en e15 e6
  go_enter Tryd.func113, Tryd.ntmps113
  go_wp2_with fail
  go_ret3
  exact ⟨by rw [HI.out]; rfl, rfl⟩

set_option maxHeartbeats 2000000 in
set_option maxRecDepth 100000 in
theorem firstName_any (A : Option Addr) (l : Bs) (c : Nat) (w : World) (hS : Bys w A l) (hc : l.length ≤ c) (hcm : c ≤ 9223372036854775807) (hl : l.length ≤ 65535) : Calls Tryd.prog 114 #[.slice A l.length c] w fun e w' => e = .returned (.string (bs (first l))) ∧ Below w.heap.size w w' := by
  have H0 : Hid (stop l = 0 + stop (l.drop 0)) := Lib.hid (by simp)
  go_enter Tryd.func114, Tryd.ntmps114
  go_wp2_with fail
  go_loop [3] (fun v => ∃ a : Nat, v = .int .i64 a ∧ a ≤ l.length + 255 ∧ Hid (stop l = a + stop (l.drop a))) (fun v => l.length + 256 - (intOf v).toNat)
  case atStart => exact ⟨0, rfl, by omega, H0⟩
  case round =>
    clear H0
    obtain ⟨a, rfl, ha, hT⟩ := hrel
    by_cases hlt : a < l.length
    · have hlt' : (a : Int) < (l.length : Int) := by omega
      obtain ⟨g, off, hAeq, hcs⟩ := hS (by omega)
      have y := hcs a hlt
      have ht := (l[a]).toNat_lt
      by_cases h0 : (l[a]).toNat = 0
      · have hs : stop l = a := by rw [hT.out, stop_zero hlt h0]; rfl
        rw [h0] at y
        clear hT hcs h0 ht
        by_cases h255 : 255 ≤ a
        · have HF := Lib.hid (first_far hs (.inr h255))
          have h255' : (255 : Int) ≤ (a : Int) := by omega
          clear hs
          subst hAeq
          clear hS
          go_wp2_with fail
          go_ret
          exact ⟨by rw [HF.out]; rfl, Below.refl _ _⟩
        · have h255' : ¬ (255 : Int) ≤ (a : Int) := by omega
          have hpre := slice_pre A l c (a + 1) ((a : Int) + 1) (by omega) hc (by omega)
          have hst := string_bys A (l.take (a + 1)) c w (hS.pre _)
          have hC := Lib.hid (fun w => Can_any (l.take (a + 1)) w)
          have hx1 : (l.take (a + 1)).length = a + 1 := by rw [List.length_take]; omega
          rw [hx1] at hpre hst
          cases hcan : can (l.take (a + 1)) with
          | true =>
            have HF := Lib.hid (first_can hs hlt hcan)
            rw [hcan] at hC
            generalize l.take (a + 1) = x at *
            clear hs hcan hx1
            subst hAeq
            clear hS
            go_wp2_with fail
            refine (hC.out _).mono ?_
            rintro e w1 ⟨rfl, b1⟩
            go_wp2_with fail
            go_ret
            exact ⟨by rw [HF.out]; rfl, b1⟩
          | false =>
            have HF := Lib.hid (first_not hs hlt hcan)
            rw [hcan] at hC
            generalize l.take (a + 1) = x at *
            clear hs hcan hx1
            subst hAeq
            clear hS
            go_wp2_with fail
            refine (hC.out _).mono ?_
            rintro e w1 ⟨rfl, b1⟩
            go_wp2_with fail
            go_ret
            exact ⟨by rw [HF.out]; rfl, b1⟩
      · have HT : Hid (stop l = (a + 1 + (l[a]).toNat) + stop (l.drop (a + 1 + (l[a]).toNat))) := Lib.hid (by rw [hT.out, stop_step hlt h0]; omega)
        have hne : (((l[a]).toNat : Int) != 0) = true := by rw [bne_iff_ne]; omega
        clear hT hcs hS h0
        subst hAeq
        generalize (l[a]).toNat = m at *
        go_wp2_with fail
        go_round
        case rel => exact ⟨a + 1 + m, by go_num, by omega, HT⟩
        case measure => simp [intOf]; omega
    · have hlt' : ¬ (a : Int) < (l.length : Int) := by omega
      have hs : stop l = a := by rw [hT.out, stop_end (by omega)]; rfl
      have HF := Lib.hid (first_far hs (.inl (by omega)))
      have hge : min (l.length : Int) 255 ≤ (a : Int) := by omega
      clear hT hs hS
      go_wp2_with fail
      go_ret
      exact ⟨by rw [HF.out]; rfl, Below.refl _ _⟩
end Go.Proofs.YtknpkifhkefikaaDoor
