/-
  The document's reader of chunks is one.
-/
import Derived.Test.YtdifemaidngnjaaCkE
namespace Go.Proofs.Ytdifemaidngnjaa
open Go.RowKit
set_option linter.unusedVariables false
set_option maxRecDepth 100000

/-- The document's. -/
def DocC : RdrC := fun w F p s => ∃ g v, p = .pointer (some ⟨g, 0, none⟩) ∧ CX w g s v ∧ CkOk s ∧ ∀ k, F k ↔ FX g v k
theorem docC : CkI 20 22 24 DocC where
  mod := fun {S F w w1 p s} h k hn => by
    obtain ⟨g, v, rfl, hx, ok, hF⟩ := h
    exact ⟨g, v, rfl, ⟨k.row hx.1 (hn g ((hF g).2 (.inl rfl))), hx.2.1.mod k (fun j hj e => hn j ((hF j).2 (.inr hj)) e), hx.2.2⟩, ok, hF⟩
  lt := fun {F w p s} h k hk => by
    obtain ⟨g, v, rfl, hx, ok, hF⟩ := h
    rcases (hF k).1 hk with rfl | e
    · exact (Array.getElem?_eq_some_iff.1 hx.1).1
    · exact (hx.2.1.lt k e).2
  new := fun most w _ _ => (newK_ref most w).mono fun e w' ⟨he, hx, hB⟩ => ⟨_, FX w.heap.size (.slice none 0 0), he, ⟨_, _, rfl, hx, newC_ok most, fun _ => Iff.rfl⟩, hB, fun k hk => by
    rcases hk with rfl | e
    · exact Nat.le_refl _
    · simp [Value.ownBlock] at e⟩
  feed := fun {F p s b A c w} h hb hA => by
    obtain ⟨g, v, rfl, hx, ok, hF⟩ := h
    have hA' : b ≠ [] → Off (FX g v) A := fun hb a ha e => hA hb a ha ((hF _).2 e)
    refine (feedK_ref g s v A b c w hx ok hb hA').mono ?_
    rintro e w' ⟨v', he, hx', hM, hO⟩
    refine ⟨FX g v', he, ⟨g, v', rfl, hx', feedC_ok2 b ok, fun _ => Iff.rfl⟩, hM.wide (fun i hi => (hF i).2 hi), fun k hk => ?_⟩
    rcases hk with rfl | hk
    · exact .inl ((hF k).2 (.inl rfl))
    · rcases hO k hk with h | h
      · exact .inl ((hF k).2 (.inr h))
      · exact .inr h
  body := fun {F p s w} h => by
    obtain ⟨g, v, rfl, hx, ok, hF⟩ := h
    have := ok.fits
    have := ok.most
    exact body_ref g s v w hx (by omega)
end Go.Proofs.Ytdifemaidngnjaa
