/-
  The walk of EntryReads.
  With bytes that come in, and bytes of an entry (as in EnU, EnUa, which are not imported beside this).
-/
import Derived.Test.YtocbcobaodefgaaEnDg
import Derived.Test.YtocbcobaodefgaaEnP
import Derived.Test.YtocbcobaodefgaaEnK
import Derived.Test.YtocbcobaodefgaaEnS
namespace Go.Proofs.Ytocbcobaodefgaa
open Go.RowKit
set_option linter.unusedVariables false
set_option maxRecDepth 100000

theorem Sl.on {W0 W1 : World} {A : Option Addr} {c : Nat} {l : Bs} (h : Sl W0 A c l) (hB : Below W0.heap.size W0 W1) : Sl W1 A c l := ⟨h.bys.on hB, h.le, h.max, h.nil⟩
theorem sized_ent (b : Bs) : Sized (entR ML b) := by
  unfold entR
  split
  · exact sized_key b
  · exact sized_set b
theorem OwnB.bysN {w : World} {base : Nat} {v : Value} {l : Bs} (h : OwnB w base v l) : ∃ A c, v = .slice A l.length c ∧ Sl w A c l := by
  rcases h with ⟨rfl, rfl⟩ | ⟨g, cap, rfl, hb, hlt, hc, hm, hcs, hsp⟩
  · exact ⟨none, 0, rfl, Sl.none w⟩
  · exact ⟨_, cap, rfl, fun _ => ⟨g, 0, rfl, fun j hj => by rw [Nat.zero_add]; exact hcs j hj⟩, hc, by unfold maxLen at hm; omega, fun h => by cases h⟩
open Go.ChangeShapes Go.WideShapes Go.ChangeAt Go.Deep
section
variable {H : Type} {enc : TypeId × Value → H} {w : World} {held : Bool} {d : DataW H} {p : List MemPlace}
theorem open_bytes {r0 : Reach} {b0 : Nat} {v : Value} (hv : Value.okWide Try.prog w r0 b0 22 v) (h : DataW.Trod enc Try.prog w 0 (fun _ => true) held 22 v d p) :
    ∃ (l : Bs) (A : Option Addr) (c : Nat), v = .slice A l.length c ∧ Sl w A c l ∧ (Within 22 d → l.length ≤ reachBytes) := by
  obtain ⟨a, len, c, rfl⟩ := okWide_slice Try.underlying22 hv
  obtain ⟨n, hf⟩ := h
  obtain ⟨y, A, c', he, ⟨h1, h2, h3, h4⟩, hw⟩ := open_data (x := .slice a len c) (n := n) (by simpa [Value.cells] using hf)
  exact ⟨y, A, c', he, ⟨h1, h2, h3, h4⟩, hw⟩
end
end Go.Proofs.Ytocbcobaodefgaa
namespace Go.Proofs.Ytocbcobaodefgaa
open Go.RowKit
set_option linter.unusedVariables false
set_option maxRecDepth 100000
attribute [local go_sem ↓] exec_loadSt exec_loadEn

def stN : St := ⟨[], 0, 0, 0, 0, 0, [], []⟩
def codeR (M : Mach) (b : Bs) : Int := if noR M b then 80 else 0
def delR (M : Mach) (b : Bs) : Bool := if noR M b then false else decide (doesN M b = 1)
def resR (M : Mach) (b : Bs) : St := if noR M b then stN else entR M b
def ReadQ (w : World) (k : Int) (d : Bool) (s : St) (e : Ending) (w' : World) : Prop := ∃ A c, e = .returned (.tuple #[.agg (enC d s A c), .int .i64 k]) ∧ Byss w' A s.ds ∧ Below w.heap.size w w' ∧ s.ds.length ≤ 9223372036854775807
theorem DecP.readQ {M : Mach} {w : World} {b : Bs} {e : Ending} {w' : World} (h : DecP M w b e w') : ReadQ w (codeR M b) (delR M b) (resR M b) e w' := by
  obtain ⟨hB, ⟨h1, rfl⟩ | ⟨h1, A, c, rfl, h2, h3, h4, h5⟩⟩ := h
  · simp only [codeR, delR, resR, h1, if_true]
    exact ⟨none, 0, rfl, byss_nil _, hB, by simp [stN]⟩
  · simp only [codeR, delR, resR, h1, Bool.false_eq_true, if_false]
    exact ⟨A, c, rfl, h2, hB, by omega⟩
theorem same_res (b : Bs) : codeR MR b = codeR ML b ∧ delR MR b = delR ML b ∧ resR MR b = resR ML b := by
  obtain ⟨h1, h2⟩ := same_read ML MR b
  unfold codeR delR resR
  rw [← h1]
  cases hn : noR ML b with
  | true => exact ⟨rfl, rfl, rfl⟩
  | false =>
    obtain ⟨h3, h4⟩ := h2 hn
    simp only [Bool.false_eq_true, if_false]
    exact ⟨trivial, h3.symm, h4.symm⟩

set_option maxHeartbeats 8000000 in
set_option maxRecDepth 100000 in
theorem EntryReads_any (A : Option Addr) (l : Bs) (c : Nat) (w : World) (hb : Sl w A c l) (hz : l.length ≤ 140737488351232) : Calls Try.prog 3 #[.slice A l.length c] w fun e w' => e = .returned (.bool true) ∧ Below w.heap.size w w' := by
  have CL := Lib.hid (CloneB_any A l l.length c w hb.bys rfl hz hb.bys.inside)
  have D1 : Hid (∀ A c W, Sl W A c l → Calls Try.prog 11 #[.slice A l.length c] W (ReadQ W (codeR ML l) (delR ML l) (resR ML l))) := Lib.hid (fun A c W h => (Dec_any A l c W h).mono (fun e w' h => h.readQ))
  have D2 : Hid (∀ A c W, Sl W A c l → Calls Try.prog 12 #[.slice A l.length c] W (ReadQ W (codeR ML l) (delR ML l) (resR ML l))) := Lib.hid (fun A c W h => by
    obtain ⟨e1, e2, e3⟩ := same_res l
    rw [← e1, ← e2, ← e3]
    exact (dDec_any A l c W h).mono (fun e w' h => h.readQ))
  generalize codeR ML l = k at *
  generalize delR ML l = d at *
  generalize resR ML l = s at *
  have HB := Lib.hid hb
  obtain ⟨n, hn⟩ : ∃ n, n = l.length := ⟨_, rfl⟩
  rw [← hn] at CL D1 D2
  rw [← hn]
  have HN := Lib.hid hn
  have hk : (k == k) = true := by simp
  have hd : (d == d) = true := by simp
  clear hb hz hn
  go_enter Try.func3, Try.ntmps3
  go_wp2_with fail
  refine CL.out.mono ?_
  rintro e w1 ⟨v, rfl, ho, k1⟩
  obtain ⟨A1, c1, rfl, S1⟩ := ho.bysN
  have S0 := HB.out.on k1
  rw [← HN.out]
  have bel := k1
  have big := bel.size
  clear CL HB ho k1
  go_wp2_with fail
  refine (D1.out _ _ _ S1).mono ?_
  rintro e w2 ⟨A2, c2, rfl, hBy2, k2, hl⟩
  replace S0 := S0.on k2
  replace S1 := S1.on k2
  replace bel := Below.trans bel (k2.mono big)
  replace big := Nat.le_trans big k2.size
  have rE2 := row_new (w := w2) (k := w2.heap.size) (.cells #[.bool false, .string ⟨#[]⟩, .int .i64 0, .int .i64 0, .int .i64 0, .int .i64 0, .int .i64 0, .string ⟨#[]⟩, .slice none 0 0] 28 (0, 0)) rfl
  have r2 := setRow_heap _ _ _ (enC d s A2 c2) _ _ rE2
  have bE2 : Below w2.heap.size w2 ((w2.alloc (.cells #[.bool false, .string ⟨#[]⟩, .int .i64 0, .int .i64 0, .int .i64 0, .int .i64 0, .int .i64 0, .string ⟨#[]⟩, .slice none 0 0] 28)).setRow w2.heap.size (enC d s A2 c2)) := Below.setRow (Below.alloc (Below.refl _ _) (Nat.le_refl _) _) (Nat.le_refl _) _
  have IE2 : Hid ((Try.prog.info? 28).map (·.size) = some (enC d s A2 c2).size) := Lib.hid info_en
  have OE2 := Lib.hid (en_one d s A2 c2)
  have ZE2 : Hid ((#[.bool false, .string ⟨#[]⟩, .int .i64 0, .int .i64 0, .int .i64 0, .int .i64 0, .int .i64 0, .string ⟨#[]⟩, .slice none 0 0] : Array Value).size = (enC d s A2 c2).size) := Lib.hid rfl
  have hBy2 := hBy2.on bE2
  replace S0 := S0.on bE2
  replace S1 := S1.on bE2
  replace bel := Below.trans bel (bE2.mono big)
  replace big := Nat.le_trans big bE2.size
  obtain ⟨D', hD'⟩ : ∃ D', D' = enC d s A2 c2 := ⟨_, rfl⟩
  have HD' := Lib.hid hD'
  rw [← hD'] at r2 bE2 IE2 OE2 ZE2 S0 S1 bel big hBy2
  rw [← hD']
  obtain ⟨W2, hW2⟩ : ∃ W2, W2 = (w2.alloc (.cells #[.bool false, .string ⟨#[]⟩, .int .i64 0, .int .i64 0, .int .i64 0, .int .i64 0, .int .i64 0, .string ⟨#[]⟩, .slice none 0 0] 28)).setRow w2.heap.size D' := ⟨_, rfl⟩
  rw [← hW2] at r2 S0 S1 bel big hBy2
  have HW2 := Lib.hid hW2
  clear D1 k2 hD' bE2 hW2
  go_wp2_with (first
    | (refine wpList_store_row rfl 28 (.tmp 4) (.tmp 13) rfl w2.heap.size D' rfl rfl 28 _ rE2 IE2.out ZE2.out OE2.out ?_; rw [← HW2.out])
    | fail)
  refine (D2.out _ _ _ S0).mono ?_
  rintro e w3 ⟨A3, c3, rfl, hBy3, k3, hl⟩
  replace S0 := S0.on k3
  replace S1 := S1.on k3
  replace hBy2 := hBy2.on k3
  have r2' := (k3.block w2.heap.size (Array.getElem?_eq_some_iff.1 r2).1).trans r2
  replace bel := Below.trans bel (k3.mono big)
  replace big := Nat.le_trans big k3.size
  clear rE2 IE2 OE2 ZE2 HW2 r2
  have rE3 := row_new (w := w3) (k := w3.heap.size) (.cells #[.bool false, .string ⟨#[]⟩, .int .i64 0, .int .i64 0, .int .i64 0, .int .i64 0, .int .i64 0, .string ⟨#[]⟩, .slice none 0 0] 28 (0, 0)) rfl
  have r3 := setRow_heap _ _ _ (enC d s A3 c3) _ _ rE3
  have bE3 : Below w3.heap.size w3 ((w3.alloc (.cells #[.bool false, .string ⟨#[]⟩, .int .i64 0, .int .i64 0, .int .i64 0, .int .i64 0, .int .i64 0, .string ⟨#[]⟩, .slice none 0 0] 28)).setRow w3.heap.size (enC d s A3 c3)) := Below.setRow (Below.alloc (Below.refl _ _) (Nat.le_refl _) _) (Nat.le_refl _) _
  have IE3 : Hid ((Try.prog.info? 28).map (·.size) = some (enC d s A3 c3).size) := Lib.hid info_en
  have OE3 := Lib.hid (en_one d s A3 c3)
  have ZE3 : Hid ((#[.bool false, .string ⟨#[]⟩, .int .i64 0, .int .i64 0, .int .i64 0, .int .i64 0, .int .i64 0, .string ⟨#[]⟩, .slice none 0 0] : Array Value).size = (enC d s A3 c3).size) := Lib.hid rfl
  have hBy3 := hBy3.on bE3
  replace S0 := S0.on bE3
  replace S1 := S1.on bE3
  replace hBy2 := hBy2.on bE3
  have r2 := (bE3.block w2.heap.size (Array.getElem?_eq_some_iff.1 r2').1).trans r2'
  replace bel := Below.trans bel (bE3.mono big)
  replace big := Nat.le_trans big bE3.size
  rw [HD'.out] at r2
  have q1 := (en_cell r2).1
  have q2 := (en_cell r3).1
  have m1 := loadSt_mid (en_mid r2)
  have m2 := loadSt_mid (en_mid r3)
  have ES := dSame_any s s A2 A3 c2 c3 _ hBy2 hBy3 hl
  rw [sameS_self] at ES
  obtain ⟨D3, hD3⟩ : ∃ D3, D3 = enC d s A3 c3 := ⟨_, rfl⟩
  rw [← hD3] at bE3 IE3 OE3 ZE3 S0 S1 bel big q1 q2 m1 m2 ES
  rw [← hD3]
  obtain ⟨W3, hW3⟩ : ∃ W3, W3 = (w3.alloc (.cells #[.bool false, .string ⟨#[]⟩, .int .i64 0, .int .i64 0, .int .i64 0, .int .i64 0, .int .i64 0, .string ⟨#[]⟩, .slice none 0 0] 28)).setRow w3.heap.size D3 := ⟨_, rfl⟩
  rw [← hW3] at S0 S1 bel big q1 q2 m1 m2 ES
  have HW3 := Lib.hid hW3
  replace ES := Lib.hid ES
  generalize stC s A2 c2 = X2 at *
  generalize stC s A3 c3 = X3 at *
  clear D2 k3 hD3 bE3 hW3 r2 r2' r3 hBy2 hBy3 HD'
  go_wp2_with (first
    | (refine wpList_store_row rfl 28 (.tmp 6) (.tmp 18) rfl w3.heap.size D3 rfl rfl 28 _ rE3 IE3.out ZE3.out OE3.out ?_; rw [← HW3.out])
    | fail)
  refine ES.out.mono ?_
  rintro e w4 ⟨rfl, k4⟩
  have EQ := Lib.hid (EqualB_any A1 A l l n n c1 c w4 (S1.on k4).bys (S0.on k4).bys HN.out HN.out)
  rw [show (l == l) = true by simp] at EQ
  replace bel := Below.trans bel (k4.mono big)
  replace big := Nat.le_trans big k4.size
  clear ES k4 S0 S1 q1 q2 m1 m2 rE3 IE3 OE3 ZE3 HW3
  go_wp2_with fail
  refine EQ.out.mono ?_
  rintro e w5 ⟨rfl, rfl⟩
  clear EQ
  go_wp2_with fail
  refine (awakeE _).mono ?_
  rintro e w6 ⟨rfl, k6⟩
  go_wp2_with fail
  go_ret
  exact ⟨rfl, Below.trans bel (k6.mono big)⟩
end Go.Proofs.Ytocbcobaodefgaa
