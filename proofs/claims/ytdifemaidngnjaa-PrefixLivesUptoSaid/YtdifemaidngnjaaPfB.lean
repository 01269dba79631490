/-
  The document's Encode of a frame; texts the same; bytes spoiled.
-/
import Derived.Test.YtdifemaidngnjaaPfA
import Derived.Test.YtdifemaidngnjaaMo
import Derived.Test.YtdifemaidngnjaaSl
import Derived.Test.YtdifemaidngnjaaEq2
import Derived.Test.YtdifemaidngnjaaEnN
namespace Go.Proofs.Ytdifemaidngnjaa
open Go.RowKit
set_option linter.unusedVariables false
set_option maxRecDepth 100000

/-- What Encode answers. -/
def EncF (w : World) (b : Bs) (e : Ending) (w' : World) : Prop := Below w.heap.size w w' ∧ ((65535 < b.length ∧ e = .returned (.tuple #[.slice none 0 0, .int .i64 1])) ∨ (b.length ≤ 65535 ∧ ∃ v, e = .returned (.tuple #[v, .int .i64 0]) ∧ OwnB w' w.heap.size v (encP b)))
set_option maxHeartbeats 1000000 in
theorem encF_ref (A : Option Addr) (b : Bs) (c : Nat) (w : World) (hb : Sl w A c b) : Calls Try.prog 17 #[.slice A b.length c] w (EncF w b) := by
  have HD : Hid (∀ e w', EncF w b e w' ↔ (Below w.heap.size w w' ∧ ((65535 < b.length ∧ e = .returned (.tuple #[.slice none 0 0, .int .i64 1])) ∨ (b.length ≤ 65535 ∧ ∃ v, e = .returned (.tuple #[v, .int .i64 0]) ∧ OwnB w' w.heap.size v (encP b))))) := Lib.hid (fun _ _ => Iff.rfl)
  obtain ⟨n, hn⟩ : ∃ n, n = b.length := ⟨_, rfl⟩
  by_cases hl : 65535 < b.length
  · have HF := Lib.hid ((HD.out (.returned (.tuple #[.slice none 0 0, .int .i64 1])) w).2 ⟨Below.refl _ _, .inl ⟨hl, rfl⟩⟩)
    rw [← hn]
    rw [← hn] at hl
    have hl' : (65535 : Int) < (n : Int) := by omega
    generalize EncF w b = Q at *
    clear hn hb HD hl
    go_enter Try.func17, Try.ntmps17
    go_wp2_with fail
    exact HF.out
  · have hl' : ¬ (65535 : Int) < (n : Int) := by omega
    have hn0 : (0 : Int) ≤ (n : Int) := by omega
    have hn1 : (n : Int) ≤ 65535 := by omega
    have HN := Lib.hid hn
    have HL := Lib.hid hl
    have HH : Hid (#[Value.int .u8 ((n : Int) / 256), .int .u8 ((n : Int) % 256)] = (([UInt8.ofNat (n / 256), UInt8.ofNat (n % 256)] : Bs).map byteV).toArray) := Lib.hid (by simp [byteV]; omega)
    have wr1 : IntKind.u8.wrap ((n : Int) / 256) = (n : Int) / 256 := IntWalk.u8_in _ (by omega)
    have wr2 : IntKind.u8.wrap ((n : Int) % 256) = (n : Int) % 256 := IntWalk.u8_in _ (by omega)
    have b1 : Below w.heap.size w (w.alloc (.cells #[Value.int .u8 ((n : Int) / 256), .int .u8 ((n : Int) % 256)] 5)) := Below.alloc (Below.refl _ _) (Nat.le_refl _) _
    have ho : Hid (OwnB (w.alloc (.cells #[Value.int .u8 ((n : Int) / 256), .int .u8 ((n : Int) % 256)] 5)) w.heap.size (.slice (some ⟨w.heap.size, 0, none⟩) 2 2) [UInt8.ofNat (n / 256), UInt8.ofNat (n % 256)]) := Lib.hid (OwnR.made (l := [UInt8.ofNat (n / 256), UInt8.ofNat (n % 256)]) (Nat.le_refl _) HH.out (by simp [maxLen])).ownB
    have HB := Lib.hid (hb.bys.on b1)
    have HA := Lib.hid hb.nil
    have hx : n + 2 ≤ 140737488355328 := by omega
    rw [← hn]
    have B1 := Lib.hid b1
    generalize EncF w b = Q at *
    clear hb hn hl b1
    go_enter Try.func17, Try.ntmps17
    go_wp2_with (first
      | (at_builtin; refine wpList_append_bys rfl _ _ rfl w.heap.size _ [UInt8.ofNat (n / 256), UInt8.ofNat (n % 256)] rfl ho.out A c n b rfl HN.out HB.out HA.out (by rw [← HN.out]; simp; omega) (by simp) ?_)
      | fail)
    intro v' w1 ho1 hg1 _
    have hb1 : Below w.heap.size w w1 := B1.out.grown hg1 (by simp) (fun k hk => by simp [Value.ownBlock] at hk; omega)
    have HF := Lib.hid ((HD.out (.returned (.tuple #[v', .int .i64 0])) w1).2 ⟨hb1, .inr ⟨by have := HL.out; omega, v', rfl, by have e : encP b = UInt8.ofNat (n / 256) :: UInt8.ofNat (n % 256) :: b := (by rw [encP, ← HN.out]); rw [e]; exact ho1⟩⟩)
    clear ho1 hg1 hb1
    go_wp2_with fail
    exact HF.out
set_option maxHeartbeats 400000 in
theorem sameTexts_any (A1 A2 : Option Addr) (L1 L2 : List Bs) (c1 c2 : Nat) (w : World) (h1 : Byss w A1 L1) (h2 : Byss w A2 L2) (hm : L1.length ≤ 9223372036854775807) :
    Calls Try.prog 11 #[.slice A1 L1.length c1, .slice A2 L2.length c2] w fun e w' => e = .returned (.bool (L1 == L2)) ∧ Below w.heap.size w w' := by
  have E := Lib.hid (EqualFB_any A1 A2 L1 L2 c1 c2 w h1 h2 hm)
  clear h1 h2 hm
  generalize L1.length = n1 at *
  generalize L2.length = n2 at *
  generalize (L1 == L2) = r at *
  go_enter Try.func11, Try.ntmps11
  go_wp2_with fail
  refine E.out.mono ?_
  rintro e w1 ⟨rfl, k1⟩
  go_wp2_with fail
  go_ret
  exact ⟨rfl, k1⟩
end Go.Proofs.Ytdifemaidngnjaa
