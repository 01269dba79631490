/-
  bytes.Clone by its contract: nil stays nil; of any other bytes a copy of the call's own.
-/
import Derived.Test.YtigpkcpdccgnfaaDoorHdG
import Derived.Lib.SliceRun
namespace Go.Proofs.YtigpkcpdccgnfaaDoor
open Go.RowKit

/-- Bytes that came in, whatever their length. -/
structure Bytes (w : World) (a : Option Addr) (n : Nat) (xs : List Int) : Prop where
  len : xs.length = n
  room : n ≤ 140737488351232
  nil0 : a = none → n = 0
  at' : ∀ p, a = Option.some p → ∀ i, i < n → w.cell? (p.add i) = Option.some (.int .u8 (xs.getD i 0))
  lt : ∀ p, a = Option.some p → 0 < n → p.block < w.heap.size

theorem Bytes.below {w W : World} {a : Option Addr} {n : Nat} {xs : List Int} (h : Bytes w a n xs) (hB : Below w.heap.size w W) : Bytes W a n xs := by
  refine ⟨h.len, h.room, h.nil0, fun p hp i hi => ?_, fun p hp hn => Nat.lt_of_lt_of_le (h.lt p hp hn) hB.size⟩
  have hb : (p.add i).block = p.block := by unfold Addr.add; split <;> rfl
  exact (hB.cell (by rw [hb]; exact h.lt p hp (by omega))).trans (h.at' p hp i hi)

theorem Bytes.string {w : World} {a : Option Addr} {n cap : Nat} {xs : List Int} (h : Bytes w a n xs) :
    (convert 25 9 (.slice a n cap)).run Tryd.prog w = .ok (.string (strOfNums xs)) w := by
  rcases Nat.eq_zero_or_pos n with h0 | h0
  · subst h0
    obtain rfl : xs = [] := List.eq_nil_of_length_eq_zero h.len
    rw [run_convert_bytes_string w 25 9 5 a 0 cap Tryd.underlying25 Tryd.underlying5 Tryd.underlying9]
    cases a <;> simp [Conv.bytesToString, strOfNums] <;> rfl
  · cases a with
    | none => have := h.nil0 rfl; omega
    | some p =>
      obtain ⟨b, off, spot⟩ := p
      have hs : spot = none := by simpa [Addr.add] using World.cell?_spot (h.at' _ rfl 0 h0)
      subst hs
      refine run_convert_bytes_arg (P := Tryd.prog) w 25 5 Tryd.underlying25 Tryd.underlying5 b off n cap xs h.len (fun i hi => ?_) 9 Tryd.underlying9
      have hp : (⟨b, off, none⟩ : Addr).add i = ⟨b, off + i, none⟩ := by unfold Addr.add; split <;> simp_all
      rw [← hp]
      exact h.at' _ rfl i hi

set_option maxHeartbeats 400000 in
theorem Clone_nil (c : Nat) (w : World) : Calls Tryd.prog 11 #[.slice none 0 c] w fun e w' => e = .returned (.slice none 0 0) ∧ w = w' := by
  have q : ∀ (w : World) (a : Option Addr) (n c n' c' : Nat), (binOp .eql 25 (.slice a n c) (.slice none n' c')).run Tryd.prog w = .ok (.bool a.isNone) w := fun w a n c n' c' => Lib.run_eql_slice_nil w _ _ a n c n' c' Tryd.underlying25
  go_enter Tryd.func11, Tryd.ntmps11
  go_wp2
  go_ret
  exact ⟨rfl, rfl⟩

set_option maxHeartbeats 1000000 in
theorem Clone_at (p : Addr) (n c : Nat) (xs : List Int) (w : World) (h : Bytes w (some p) n xs) :
    Calls Tryd.prog 11 #[.slice (some p) n c] w fun e w' => ∃ v', e = .returned v' ∧ w'.ownsRow w.heap.size 5 1 v' n (xs.map (Value.int .u8)) ∧ Below w.heap.size w w' := by
  have q : ∀ (w : World) (a : Option Addr) (n c n' c' : Nat), (binOp .eql 25 (.slice a n c) (.slice none n' c')).run Tryd.prog w = .ok (.bool a.isNone) w := fun w a n c n' c' => Lib.run_eql_slice_nil w _ _ a n c n' c' Tryd.underlying25
  obtain ⟨i0, hi, hz0, hz1, hz2⟩ := info_parts info_u8
  have hl := h.len
  have hr := h.room
  have K := Lib.hid h
  clear h
  have HL := Lib.hid hl
  clear hl
  go_enter Tryd.func11, Tryd.ntmps11
  go_wp2_with (at_builtin; refine wpList_append_own _ rfl _ _ 25 rfl w.heap.size 5 i0 (.int .u8 0) 1 1 Tryd.underlying25 hi hz0 hz1 hz2 rfl (by decide) _ _ _ rfl (World.ownsRow_made w #[] 0 (Nat.le_refl _) (Nat.zero_le _) rfl) p n c (xs.map (Value.int .u8)) rfl ?a1 ?a2 ?a3 ?a4 ?a5 ?a6 ?_)
  case a1 => have := HL.out; simp; omega
  case a2 =>
    intro j u hj
    have hj' : j < xs.length := by
      have := (List.getElem?_eq_some_iff.1 hj).1
      simpa using this
    have hc := K.out.at' p rfl j (by have := HL.out; omega)
    have hb : (p.add j).block = p.block := by unfold Addr.add; split <;> rfl
    have hlt := K.out.lt p rfl (by have := HL.out; omega)
    rw [Below.cell (B := w.heap.size) ((Below.refl _ w).alloc (Nat.le_refl _) _) (by rw [hb]; exact hlt), hc]
    simp [List.getElem?_map, List.getElem?_eq_getElem hj'] at hj
    simp [List.getD, List.getElem?_eq_getElem hj', hj]
  case a3 => intro u hu; obtain ⟨x, _, rfl⟩ := List.mem_map.1 hu; rfl
  case a4 => unfold maxLen; omega
  case a5 => omega
  case a6 => simp
  intro v' w1 hown hgrow _
  go_wp2
  go_ret
  exact ⟨v', rfl, by simpa using hown, ((Below.refl _ w).alloc (Nat.le_refl _) _).grown hgrow (by simp) (by intro k hk; simp [Value.ownBlock] at hk; omega)⟩

/-- Clone of whatever bytes came in: the same bytes, at a place of the call's own, or nil. -/
theorem Clone_any (a : Option Addr) (n c : Nat) (xs : List Int) (w : World) (h : Bytes w a n xs) :
    Calls Tryd.prog 11 #[.slice a n c] w fun e w' => ∃ a' c', e = .returned (.slice a' n c') ∧ Bytes w' a' n xs ∧ Below w.heap.size w w' := by
  cases a with
  | none =>
    have h0 := h.nil0 rfl
    subst h0
    exact (Clone_nil c w).mono fun e w' ⟨he, hw⟩ => ⟨none, 0, he, by subst hw; exact ⟨h.len, by omega, fun _ => rfl, fun p hp => (by cases hp), fun p hp => (by cases hp)⟩, by subst hw; exact Below.refl _ _⟩
  | some p =>
    refine (Clone_at p n c xs w h).mono fun e w' ⟨v', he, hown, hB⟩ => ?_
    obtain ⟨hl, h2⟩ := hown
    rcases h2 with ⟨rfl, h0⟩ | ⟨g, cap, cur, rfl, hg, hh, hn, hc, hs, ht⟩
    · subst h0
      exact ⟨none, 0, he, ⟨h.len, by omega, fun _ => rfl, fun p hp => (by cases hp), fun p hp => (by cases hp)⟩, hB⟩
    · refine ⟨some ⟨g, 0, none⟩, cap, he, ⟨h.len, h.room, fun q => (by cases q), fun p hp i hi => ?_, fun p hp hn => ?_⟩, hB⟩
      · cases hp
        have hp : (⟨g, 0, none⟩ : Addr).add i = ⟨g, 0 + i, none⟩ := by unfold Addr.add; split <;> simp_all
        have hx := h.len
        rw [hp, cell_of_row _ _ _ _ _ _ hh, ← Array.getElem?_toList]
        have := congrArg (fun l => l[0 + i]?) ht
        simp only [List.getElem?_take, List.getElem?_map] at this
        rw [if_pos (by omega)] at this
        rw [this]
        simp [List.getElem?_eq_getElem (show i < xs.length by omega), List.getD]
      · cases hp
        exact (Array.getElem?_eq_some_iff.1 hh).1

end Go.Proofs.YtigpkcpdccgnfaaDoor
