/-
  What Encode wrote, as Decode reads it; owned bytes as bytes at a place.
-/
import Derived.Test.YtigpkcpdccgnfaaDoorHdX
namespace Go.Proofs.YtigpkcpdccgnfaaDoor
open Go.RowKit

theorem bi_inj {a b : Bool} (h : bi a = bi b) : a = b := by
  cases a <;> cases b <;> simp_all [bi]

/-- Bytes that a call owns lie at a place. -/
theorem owned_place {w : World} {base n : Nat} {v : Value} {xs : List Int} (h : w.ownsRow base 5 1 v n (xs.map (Value.int .u8))) (hn : 0 < n) (hr : n ≤ 140737488355328) :
    ∃ g cap, v = .slice (some ⟨g, 0, none⟩) n cap ∧ base ≤ g ∧ g < w.heap.size ∧ n ≤ cap ∧ cap ≤ maxLen ∧ xs.length = n ∧ ∀ i, i < n → w.cell? ⟨g, 0 + i, none⟩ = some (.int .u8 (xs[i]?.getD 0)) := by
  obtain ⟨hl, h2⟩ := h
  have hx : xs.length = n := by simpa using hl
  rcases h2 with ⟨_, h0⟩ | ⟨g, cap, cur, rfl, hg, hh, hn', hc, hs, ht⟩
  · omega
  · refine ⟨g, cap, rfl, hg, (Array.getElem?_eq_some_iff.1 hh).1, hn', hc, hx, fun i hi => ?_⟩
    rw [cell_of_row _ _ _ _ _ _ hh, ← Array.getElem?_toList]
    have := congrArg (fun l => l[0 + i]?) ht
    simp only [List.getElem?_take, List.getElem?_map] at this
    rw [if_pos (by omega)] at this
    rw [this]
    simp [List.getElem?_eq_getElem (show i < xs.length by omega)]

set_option maxHeartbeats 4000000 in
/-- The numbers that Decode reads off what Encode wrote. -/
theorem dcd_enc (i o c n0 n1 n2 n3 : Int) (r aa tc rd ra : Bool) (h : canH i o c n0 n1 n2 n3 = true) (xs : List Int) :
    Dcd (fun j => (encN i (flags o c r aa tc rd ra) n0 n1 n2 n3 ++ xs)[j]?.getD 0) i r o aa tc rd ra c n0 n1 n2 n3 ∧ bits .and .i64 ((encN i (flags o c r aa tc rd ra) n0 n1 n2 n3 ++ xs)[2]?.getD 0 * 256 + (encN i (flags o c r aa tc rd ra) n0 n1 n2 n3 ++ xs)[3]?.getD 0) 112 = 0 := by
  obtain ⟨b0, b1, b2, b3, bI, bO, bC⟩ := canH_out h
  have bF := flags_bd r aa tc rd ra bO bC
  obtain ⟨F, hF⟩ : ∃ F, flags o c r aa tc rd ra = F := ⟨_, rfl⟩
  rw [hF] at bF ⊢
  have vF := hF
  simp only [flags, flk] at vF
  have dr := bi_bd r
  have da := bi_bd aa
  have dt := bi_bd tc
  have dd := bi_bd rd
  have dx := bi_bd ra
  have eF : F / 256 * 256 + F % 256 = F := by omega
  have k1 := bit_of 15 32768 F (by decide) (by decide) (by omega) (by omega)
  have k3 := bit_of 10 1024 F (by decide) (by decide) (by omega) (by omega)
  have k4 := bit_of 9 512 F (by decide) (by decide) (by omega) (by omega)
  have k5 := bit_of 8 256 F (by decide) (by decide) (by omega) (by omega)
  have k6 := bit_of 7 128 F (by decide) (by decide) (by omega) (by omega)
  have q1 := and15 (F / 2048) (by omega) (by omega)
  have q2 := and15 F (by omega) (by omega)
  have q3 := and112 F (by omega) (by omega)
  have j1 : F / 32768 % 2 = bi r := by omega
  have j3 : F / 1024 % 2 = bi aa := by omega
  have j4 : F / 512 % 2 = bi tc := by omega
  have j5 : F / 256 % 2 = bi rd := by omega
  have j6 : F / 128 % 2 = bi ra := by omega
  have jo : F / 2048 % 16 = o := by omega
  have jc : F % 16 = c := by omega
  have jz : F / 16 % 8 = 0 := by omega
  rw [j1] at k1
  rw [j3] at k3
  rw [j4] at k4
  rw [j5] at k5
  rw [j6] at k6
  clear vF dr da dt dd dx j1 j3 j4 j5 j6
  refine ⟨⟨?_⟩, ?_⟩
  · simp only [encN, List.cons_append, List.getElem?_cons_zero, List.getElem?_cons_succ, Option.getD_some, eF]
    rw [q1, q2]
    exact ⟨by omega, bi_inj k1.symm, jo.symm, bi_inj k3.symm, bi_inj k4.symm, bi_inj k5.symm, bi_inj k6.symm, jc.symm, by omega, by omega, by omega, by omega⟩
  · simp only [encN, List.cons_append, List.getElem?_cons_zero, List.getElem?_cons_succ, Option.getD_some, eF]
    rw [q3, jz]; rfl

theorem encN_bd {i o c n0 n1 n2 n3 : Int} {r aa tc rd ra : Bool} {xs : List Int} (h : canH i o c n0 n1 n2 n3 = true) (hb : ∀ j : Nat, 0 ≤ xs[j]?.getD 0 ∧ xs[j]?.getD 0 ≤ 255) (j : Nat) :
    0 ≤ (encN i (flags o c r aa tc rd ra) n0 n1 n2 n3 ++ xs)[j]?.getD 0 ∧ (encN i (flags o c r aa tc rd ra) n0 n1 n2 n3 ++ xs)[j]?.getD 0 ≤ 255 := by
  obtain ⟨b0, b1, b2, b3, bI, bO, bC⟩ := canH_out h
  have bF := flags_bd r aa tc rd ra bO bC
  generalize flags o c r aa tc rd ra = F at bF ⊢
  match j with
  | 0 => simp [encN]; omega
  | 1 => simp [encN]; omega
  | 2 => simp [encN]; omega
  | 3 => simp [encN]; omega
  | 4 => simp [encN]; omega
  | 5 => simp [encN]; omega
  | 6 => simp [encN]; omega
  | 7 => simp [encN]; omega
  | 8 => simp [encN]; omega
  | 9 => simp [encN]; omega
  | 10 => simp [encN]; omega
  | 11 => simp [encN]; omega
  | k + 12 => simpa [encN] using hb k

/-- Encode's bytes at a place. -/
theorem Encode_at (i o c n0 n1 n2 n3 : Int) (r aa tc rd ra : Bool) (w : World) (h : canH i o c n0 n1 n2 n3 = true) (hm : Masks w) :
    Calls Tryd.prog 7 #[hdV i r o aa tc rd ra c, ctV n0 n1 n2 n3] w fun e w' => ∃ g cap, e = .returned (.tuple #[.slice (some ⟨g, 0, none⟩) 12 cap, .int .i64 0]) ∧ w.heap.size ≤ g ∧ Bytes w' (some ⟨g, 0, none⟩) 12 (encN i (flags o c r aa tc rd ra) n0 n1 n2 n3) ∧ Below w.heap.size w w' := by
  refine (Encode_yes i o c n0 n1 n2 n3 r aa tc rd ra w h hm).mono ?_
  rintro e w' ⟨v, rfl, hown, hB⟩
  rw [encN_B] at hown
  obtain ⟨g, cap, rfl, hg, hlt, _, _, hx, hc⟩ := owned_place hown (by omega) (by omega)
  refine ⟨g, cap, rfl, hg, ⟨hx, by omega, fun q => (by cases q), fun p hp j hj => ?_, fun p hp _ => ?_⟩, hB⟩
  · cases hp
    have hp : (⟨g, 0, none⟩ : Addr).add j = ⟨g, 0 + j, none⟩ := by unfold Addr.add; split <;> simp_all
    rw [hp, hc j hj, List.getD_eq_getElem?_getD]
  · cases hp; exact hlt

/-- Clone's copy at a place. -/
theorem Clone_own (p : Addr) (n c : Nat) (xs : List Int) (w : World) (h : Bytes w (some p) n xs) (hn : 0 < n) :
    Calls Tryd.prog 11 #[.slice (some p) n c] w fun e w' => ∃ g cap, e = .returned (.slice (some ⟨g, 0, none⟩) n cap) ∧ w'.ownsRow w.heap.size 5 1 (.slice (some ⟨g, 0, none⟩) n cap) n (xs.map (Value.int .u8)) ∧ Below w.heap.size w w' := by
  refine (Clone_at p n c xs w h).mono ?_
  rintro e w' ⟨v', rfl, hown, hB⟩
  obtain ⟨g, cap, rfl, _⟩ := owned_place hown hn (by have := h.room; omega)
  exact ⟨g, cap, rfl, hown, hB⟩

end Go.Proofs.YtigpkcpdccgnfaaDoor
