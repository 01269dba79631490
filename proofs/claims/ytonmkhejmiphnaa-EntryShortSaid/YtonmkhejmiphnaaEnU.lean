/-
  The walk of EntryBack.
-/
import Derived.Test.YtonmkhejmiphnaaEnDd
import Derived.Test.YtonmkhejmiphnaaEnK
import Derived.Test.YtonmkhejmiphnaaEnS
import Derived.Test.YtonmkhejmiphnaaEnR
import Derived.Test.YtonmkhejmiphnaaEnP
namespace Go.Proofs.Ytonmkhejmiphnaa
open Go.RowKit
set_option linter.unusedVariables false
set_option maxRecDepth 100000
attribute [local go_sem ↓] exec_loadSt exec_loadEn

/-- What Encode answers (as in EnT, which is not imported here). -/
def encK (d : Bool) (s : St) : Int := if canE d s then 0 else 1
def encL (d : Bool) (s : St) : Bs := if canE d s then encB d s else []
theorem Sl.on {W0 W1 : World} {A : Option Addr} {c : Nat} {l : Bs} (h : Sl W0 A c l) (hB : Below W0.heap.size W0 W1) : Sl W1 A c l := ⟨h.bys.on hB, h.le, h.max, h.nil⟩
theorem sized_ent (b : Bs) : Sized (entR ML b) := by
  unfold entR
  split
  · exact sized_key b
  · exact sized_set b
/-- What was written is read. -/
def BackP (W : World) (d : Bool) (s : St) (e : Ending) (w' : World) : Prop := ∃ A' c', e = .returned (.tuple #[.agg (enC d s A' c'), .int .i64 0]) ∧ Byss w' A' s.ds ∧ Below W.heap.size W w'
theorem dec_back {d : Bool} {s : St} (h : canE d s = true) (A : Option Addr) (c : Nat) (W : World) (hb : Sl W A c (encB d s)) : Calls Try.prog 18 #[.slice A (encB d s).length c] W (BackP W d s) := by
  refine (Dec_any A (encB d s) c W hb).mono ?_
  rintro e w' ⟨hB, h1 | ⟨h1, A', c', he, hBy, _⟩⟩
  · have := (no_can ML h).1
    rw [h1.1] at this; cases this
  · obtain ⟨_, h2, h3⟩ := no_can ML h
    rw [h2, h3] at he
    rw [h3] at hBy
    exact ⟨A', c', he, hBy, hB⟩
theorem dec_backL {d : Bool} {s : St} (h : canE d s = true) (A : Option Addr) (c : Nat) (W : World) (hb : Sl W A c (encL d s)) : Calls Try.prog 18 #[.slice A (encL d s).length c] W (BackP W d s) := by
  have e1 : encL d s = encB d s := by simp [encL, h]
  rw [e1] at hb ⊢
  exact dec_back h A c W hb
theorem OwnB.bysN {w : World} {base : Nat} {v : Value} {l : Bs} (h : OwnB w base v l) : ∃ A c, v = .slice A l.length c ∧ Sl w A c l := by
  rcases h with ⟨rfl, rfl⟩ | ⟨g, cap, rfl, hb, hlt, hc, hm, hcs, hsp⟩
  · exact ⟨none, 0, rfl, Sl.none w⟩
  · exact ⟨_, cap, rfl, fun _ => ⟨g, 0, rfl, fun j hj => by rw [Nat.zero_add]; exact hcs j hj⟩, hc, by unfold maxLen at hm; omega, fun h => by cases h⟩
theorem EncPost.outS {w : World} {d : Bool} {s : St} {e : Ending} {w' : World} (h : EncPost w d s e w') : ∃ A c, e = .returned (.tuple #[.slice A (encL d s).length c, .int .i64 (encK d s)]) ∧ Sl w' A c (encL d s) ∧ Below w.heap.size w w' := by
  obtain ⟨hb, h | ⟨h, v, he, ho⟩⟩ := h
  · obtain ⟨h, rfl⟩ := h
    have e1 : encL d s = [] := by simp [encL, h]
    have e2 : encK d s = 1 := by simp [encK, h]
    exact ⟨none, 0, by rw [e1, e2]; rfl, by rw [e1]; exact Sl.none _, hb⟩
  · have e1 : encL d s = encB d s := by simp [encL, h]
    have e2 : encK d s = 0 := by simp [encK, h]
    rw [← e1] at ho
    obtain ⟨A, c, hv, hs⟩ := ho.bysN
    exact ⟨A, c, by rw [he, hv, e2], hs, hb⟩
/-- What was read is written as it was. -/
def ReadP (W : World) (l : Bs) (e : Ending) (w' : World) : Prop := Below W.heap.size W w' ∧ (e = .returned (.tuple #[.agg #[.bool false, .string ⟨#[]⟩, .int .i64 0, .int .i64 0, .int .i64 0, .int .i64 0, .int .i64 0, .string ⟨#[]⟩, .slice none 0 0], .int .i64 80]) ∨ ∃ d s A' c', e = .returned (.tuple #[.agg (enC d s A' c'), .int .i64 0]) ∧ Byss w' A' s.ds ∧ Sized s ∧ canE d s = true ∧ encB d s = l)
theorem dec_read (A : Option Addr) (l : Bs) (c : Nat) (W : World) (hb : Sl W A c l) : Calls Try.prog 18 #[.slice A l.length c] W (ReadP W l) := by
  refine (Dec_any A l c W hb).mono ?_
  rintro e w' ⟨hB, h1 | ⟨h1, A', c', he, hBy, _⟩⟩
  · exact ⟨hB, .inl h1.2⟩
  · obtain ⟨h2, h3⟩ := read_back ML h1
    exact ⟨hB, .inr ⟨_, _, A', c', he, hBy, sized_ent l, h2, h3⟩⟩

theorem enc_read {w : World} {d : Bool} {s : St} {l : Bs} {e : Ending} {w' : World} (h1 : canE d s = true) (h2 : encB d s = l) (h : EncPost w d s e w') : ∃ A c, e = .returned (.tuple #[.slice A l.length c, .int .i64 0]) ∧ Sl w' A c l ∧ Below w.heap.size w w' := by
  obtain ⟨A, c, he, hs, hB⟩ := h.outS
  have e1 : encL d s = l := by simp [encL, h1, h2]
  have e2 : encK d s = 0 := by simp [encK, h1]
  rw [e1, e2] at he
  rw [e1] at hs
  exact ⟨A, c, he, hs, hB⟩
/-- An entry in a box, bytes, and bytes. -/
structure B1 (w : World) (g : Nat) (D : Array Value) (A : Option Addr) (s : St) (Ab : Option Addr) (cb : Nat) (l : Bs) (A1 : Option Addr) (c1 : Nat) (x : Bs) (w' : World) : Prop where
  r1 : w'.heap[g]? = some (.cells D 26 (0, 0))
  m1 : Byss w' A s.ds
  bl : Sl w' Ab cb l
  bx : Sl w' A1 c1 x
  bel : Below w.heap.size w w'
  big : w.heap.size ≤ w'.heap.size
theorem B1.on {w : World} {g : Nat} {D : Array Value} {A : Option Addr} {s : St} {Ab : Option Addr} {cb : Nat} {l : Bs} {A1 : Option Addr} {c1 : Nat} {x : Bs} {w1 w2 : World} (h : B1 w g D A s Ab cb l A1 c1 x w1) (hB : Below w1.heap.size w1 w2) : B1 w g D A s Ab cb l A1 c1 x w2 :=
  ⟨(hB.block _ (Array.getElem?_eq_some_iff.1 h.r1).1).trans h.r1, h.m1.on hB, h.bl.on hB, h.bx.on hB, Below.trans h.bel (hB.mono h.big), Nat.le_trans h.big hB.size⟩
theorem B1.drew {w : World} {g : Nat} {D : Array Value} {A : Option Addr} {s : St} {Ab : Option Addr} {cb : Nat} {l : Bs} {A1 : Option Addr} {c1 : Nat} {x : Bs} {w1 : World} (h : B1 w g D A s Ab cb l A1 c1 x w1) : B1 w g D A s Ab cb l A1 c1 x w1.drew := h.on (Below.drew (Below.refl _ _))
/-- Two entries in boxes, and bytes. -/
structure B2 (w : World) (g p : Nat) (D D' : Array Value) (A A' : Option Addr) (s : St) (Ab : Option Addr) (cb : Nat) (l : Bs) (w' : World) : Prop where
  r1 : w'.heap[g]? = some (.cells D 26 (0, 0))
  r3 : w'.heap[p]? = some (.cells D' 26 (0, 0))
  m1 : Byss w' A s.ds
  m3 : Byss w' A' s.ds
  bl : Sl w' Ab cb l
  bel : Below w.heap.size w w'
  big : w.heap.size ≤ w'.heap.size
theorem B2.on {w : World} {g p : Nat} {D D' : Array Value} {A A' : Option Addr} {s : St} {Ab : Option Addr} {cb : Nat} {l : Bs} {w1 w2 : World} (h : B2 w g p D D' A A' s Ab cb l w1) (hB : Below w1.heap.size w1 w2) : B2 w g p D D' A A' s Ab cb l w2 :=
  ⟨(hB.block _ (Array.getElem?_eq_some_iff.1 h.r1).1).trans h.r1, (hB.block _ (Array.getElem?_eq_some_iff.1 h.r3).1).trans h.r3, h.m1.on hB, h.m3.on hB, h.bl.on hB, Below.trans h.bel (hB.mono h.big), Nat.le_trans h.big hB.size⟩
theorem B2.drew {w : World} {g p : Nat} {D D' : Array Value} {A A' : Option Addr} {s : St} {Ab : Option Addr} {cb : Nat} {l : Bs} {w1 : World} (h : B2 w g p D D' A A' s Ab cb l w1) : B2 w g p D D' A A' s Ab cb l w1.drew := h.on (Below.drew (Below.refl _ _))

set_option maxHeartbeats 8000000 in
set_option maxRecDepth 100000 in
theorem EntryBack_any (d : Bool) (s : St) (A : Option Addr) (c : Nat) (Ab : Option Addr) (l : Bs) (cb : Nat) (w : World) (hS : Byss w A s.ds) (hz : Reach8 s) (hb : Sl w Ab cb l) : Calls Try.prog 5 #[.agg (enC d s A c), .slice Ab l.length cb] w fun e w' => e = .returned (.bool true) ∧ Below w.heap.size w w' := by
  have r1 := row_new (w := w) (k := w.heap.size) (.cells (enC d s A c) 26 (0, 0)) rfl
  have b0 : Below w.heap.size w (w.alloc (.cells (enC d s A c) 26 (0, 0))) := Below.alloc (Below.refl _ _) (Nat.le_refl _) _
  have hS1 := Lib.hid (hS.on b0)
  have hb1 := Lib.hid (hb.on b0)
  have hl0 := hz.sized.l
  have hsz := Lib.hid hz.sized
  have MID := Lib.hid (fun (W : World) g (h : W.heap[g]? = some (.cells (enC d s A c) 26 (0, 0))) => (⟨(en_cell h).1, en_mid h⟩ : W.cell? ⟨g, 0, none⟩ = some (.bool d) ∧ W.rangeAt g 1 (stL s A c)))
  have K1 := Lib.hid (fun W (h : Byss W A s.ds) => dCanE_any d s A c W h (by omega))
  have E1 := Lib.hid (Enc_any d s A c (w.alloc (.cells (enC d s A c) 26 (0, 0))) hS1.out hsz.out)
  have I1 : Hid ((Try.prog.info? 26).map (·.size) = some (enC d s A c).size) := Lib.hid info_en
  have L1 := loadEn_row r1 I1.out
  obtain ⟨D, hD⟩ : ∃ D, D = enC d s A c := ⟨_, rfl⟩
  rw [← hD] at r1 b0 MID hS1 hb1 I1 L1 K1 E1
  rw [← hD]
  have HD := Lib.hid hD
  have R1 := Lib.hid r1
  have s1 := b0.size
  clear hD hS hz r1 hb
  go_enter Try.func5, Try.ntmps5
  go_wp2_with fail
  refine E1.out.mono ?_
  rintro e w1 h
  obtain ⟨A1, c1, rfl, hx1, k1⟩ := EncPost.outS h
  have S1 : B1 w w.heap.size D A s Ab cb l A1 c1 (encL d s) w1 := ⟨(k1.block _ (Array.getElem?_eq_some_iff.1 R1.out).1).trans R1.out, hS1.out.on k1, hb1.out.on k1, hx1, Below.trans b0 (k1.mono s1), Nat.le_trans s1 k1.size⟩
  have F1 : ∀ W, B1 w w.heap.size D A s Ab cb l A1 c1 (encL d s) W → loadEn (.pointer (some ⟨w.heap.size, 0, none⟩)) W = .ok (.value (.agg D)) W := fun W h => loadEn_row h.r1 I1.out
  have hk : (encK d s == 0) = canE d s := by unfold encK; cases canE d s <;> rfl
  have DB := Lib.hid (fun (hc : canE d s = true) W (h : Sl W A1 c1 (encL d s)) => dec_backL hc A1 c1 W h)
  clear L1 E1 h hx1 k1 hS1 hb1 R1
  generalize encL d s = xl at *
  generalize encK d s = kk at *
  generalize canE d s = r at *
  have hne : (r != r) = false := by simp
  have L2 := F1 _ S1
  go_wp2_with fail
  refine (K1.out _ S1.m1).mono ?_
  rintro e w2 ⟨rfl, k2⟩
  replace S1 := S1.on k2
  clear L2 k2 K1
  cases hr : r with
  | false =>
    rw [hr] at hk hne
    have BL0 := S1.bl
    have bel0 := S1.bel
    have big0 := S1.big
    clear S1 F1 DB
    go_wp2_with fail
    refine (dec_read Ab l cb _ BL0).mono ?_
    rintro e wT ⟨kT, he⟩
    have belT := Below.trans bel0 (kT.mono big0)
    have BLT := BL0.on kT
    have bigT := Nat.le_trans big0 kT.size
    rcases he with rfl | ⟨d', s', A2, c2, rfl, hBy2, hsz2, hcan2, henc2⟩
    · have rE := row_new (w := wT) (k := wT.heap.size) (.cells #[.bool false, .string ⟨#[]⟩, .int .i64 0, .int .i64 0, .int .i64 0, .int .i64 0, .int .i64 0, .string ⟨#[]⟩, .slice none 0 0] 26 (0, 0)) rfl
      have bE : Below wT.heap.size wT ((wT.alloc (.cells #[.bool false, .string ⟨#[]⟩, .int .i64 0, .int .i64 0, .int .i64 0, .int .i64 0, .int .i64 0, .string ⟨#[]⟩, .slice none 0 0] 26)).setRow wT.heap.size #[.bool false, .string ⟨#[]⟩, .int .i64 0, .int .i64 0, .int .i64 0, .int .i64 0, .int .i64 0, .string ⟨#[]⟩, .slice none 0 0]) := Below.setRow (Below.alloc (Below.refl _ _) (Nat.le_refl _) _) (Nat.le_refl _) _
      have IE : Hid ((Try.prog.info? 26).map (·.size) = some (#[.bool false, .string ⟨#[]⟩, .int .i64 0, .int .i64 0, .int .i64 0, .int .i64 0, .int .i64 0, .string ⟨#[]⟩, .slice none 0 0] : Array Value).size) := Lib.hid info_en
      have OE : Hid ((#[.bool false, .string ⟨#[]⟩, .int .i64 0, .int .i64 0, .int .i64 0, .int .i64 0, .int .i64 0, .string ⟨#[]⟩, .slice none 0 0] : Array Value).all (·.oneCell') = true) := Lib.hid (by simp [Value.oneCell'])
      have belX := Below.trans belT (bE.mono bigT)
      have bigX := Nat.le_trans bigT bE.size
      obtain ⟨W5, hW5⟩ : ∃ W5, W5 = (wT.alloc (.cells #[.bool false, .string ⟨#[]⟩, .int .i64 0, .int .i64 0, .int .i64 0, .int .i64 0, .int .i64 0, .string ⟨#[]⟩, .slice none 0 0] 26)).setRow wT.heap.size #[.bool false, .string ⟨#[]⟩, .int .i64 0, .int .i64 0, .int .i64 0, .int .i64 0, .int .i64 0, .string ⟨#[]⟩, .slice none 0 0] := ⟨_, rfl⟩
      rw [← hW5] at belX bigX
      have HW5 := Lib.hid hW5
      clear hW5 bE BLT belT bigT kT
      go_wp2_with (first
        | (refine wpList_store_row rfl 26 (.tmp 9) (.tmp 50) rfl wT.heap.size #[.bool false, .string ⟨#[]⟩, .int .i64 0, .int .i64 0, .int .i64 0, .int .i64 0, .int .i64 0, .string ⟨#[]⟩, .slice none 0 0] rfl rfl 26 _ rE IE.out rfl OE.out ?_; rw [← HW5.out])
        | fail)
      refine (awakeE _).mono ?_
      rintro e wU ⟨rfl, kU⟩
      go_wp2_with fail
      go_ret
      exact ⟨rfl, Below.trans belX (kU.mono bigX)⟩
    · have rE := row_new (w := wT) (k := wT.heap.size) (.cells #[.bool false, .string ⟨#[]⟩, .int .i64 0, .int .i64 0, .int .i64 0, .int .i64 0, .int .i64 0, .string ⟨#[]⟩, .slice none 0 0] 26 (0, 0)) rfl
      have r5 := setRow_heap _ _ _ (enC d' s' A2 c2) _ _ rE
      have bE : Below wT.heap.size wT ((wT.alloc (.cells #[.bool false, .string ⟨#[]⟩, .int .i64 0, .int .i64 0, .int .i64 0, .int .i64 0, .int .i64 0, .string ⟨#[]⟩, .slice none 0 0] 26)).setRow wT.heap.size (enC d' s' A2 c2)) := Below.setRow (Below.alloc (Below.refl _ _) (Nat.le_refl _) _) (Nat.le_refl _) _
      have IE : Hid ((Try.prog.info? 26).map (·.size) = some (enC d' s' A2 c2).size) := Lib.hid info_en
      have OE := Lib.hid (en_one d' s' A2 c2)
      have ZE : Hid ((#[.bool false, .string ⟨#[]⟩, .int .i64 0, .int .i64 0, .int .i64 0, .int .i64 0, .int .i64 0, .string ⟨#[]⟩, .slice none 0 0] : Array Value).size = (enC d' s' A2 c2).size) := Lib.hid rfl
      have belX := Below.trans belT (bE.mono bigT)
      have bigX := Nat.le_trans bigT bE.size
      have BLX := BLT.on bE
      have E2 := Lib.hid (Enc_any d' s' A2 c2 _ (hBy2.on bE) hsz2)
      have L5 := loadEn_row r5 IE.out
      obtain ⟨D2, hD2⟩ : ∃ D2, D2 = enC d' s' A2 c2 := ⟨_, rfl⟩
      rw [← hD2] at r5 bE IE OE ZE belX bigX BLX E2 L5
      rw [← hD2]
      obtain ⟨W5, hW5⟩ : ∃ W5, W5 = (wT.alloc (.cells #[.bool false, .string ⟨#[]⟩, .int .i64 0, .int .i64 0, .int .i64 0, .int .i64 0, .int .i64 0, .string ⟨#[]⟩, .slice none 0 0] 26)).setRow wT.heap.size D2 := ⟨_, rfl⟩
      rw [← hW5] at r5 belX bigX BLX E2 L5
      have HW5 := Lib.hid hW5
      clear hW5 bE BLT belT bigT kT hD2 hBy2
      go_wp2_with (first
        | (refine wpList_store_row rfl 26 (.tmp 9) (.tmp 50) rfl wT.heap.size D2 rfl rfl 26 _ rE IE.out ZE.out OE.out ?_; rw [← HW5.out])
        | fail)
      refine E2.out.mono ?_
      rintro e wU h
      obtain ⟨A3, c3, rfl, hs3, kU⟩ := enc_read hcan2 henc2 h
      have EQ := Lib.hid (EqualB_any A3 Ab l l l.length l.length c3 cb wU hs3.bys (BLX.on kU).bys rfl rfl)
      rw [show (l == l) = true by simp] at EQ
      clear L5 r5 h
      go_wp2_with fail
      refine EQ.out.mono ?_
      rintro e wV ⟨rfl, rfl⟩
      go_wp2_with fail
      go_ret
      exact ⟨rfl, Below.trans belX (kU.mono bigX)⟩
  | true =>
    rw [hr] at hk hne
    go_wp2_with fail
    refine (DB.out hr _ S1.bx).mono ?_
    rintro e w3 ⟨A', c', rfl, hBy, k3⟩
    have S2 := S1.on k3
    have rE := row_new (w := w3) (k := w3.heap.size) (.cells #[.bool false, .string ⟨#[]⟩, .int .i64 0, .int .i64 0, .int .i64 0, .int .i64 0, .int .i64 0, .string ⟨#[]⟩, .slice none 0 0] 26 (0, 0)) rfl
    have r2 := setRow_heap _ _ _ (enC d s A' c') _ _ rE
    have bE : Below w3.heap.size w3 ((w3.alloc (.cells #[.bool false, .string ⟨#[]⟩, .int .i64 0, .int .i64 0, .int .i64 0, .int .i64 0, .int .i64 0, .string ⟨#[]⟩, .slice none 0 0] 26)).setRow w3.heap.size (enC d s A' c')) := Below.setRow (Below.alloc (Below.refl _ _) (Nat.le_refl _) _) (Nat.le_refl _) _
    have IE : Hid ((Try.prog.info? 26).map (·.size) = some (enC d s A' c').size) := Lib.hid info_en
    have OE := Lib.hid (en_one d s A' c')
    have ZE : Hid ((#[.bool false, .string ⟨#[]⟩, .int .i64 0, .int .i64 0, .int .i64 0, .int .i64 0, .int .i64 0, .string ⟨#[]⟩, .slice none 0 0] : Array Value).size = (enC d s A' c').size) := Lib.hid rfl
    have T0 := S2.on bE
    have hBy2 := hBy.on bE
    have MID2 := Lib.hid (fun (W : World) g (h : W.heap[g]? = some (.cells (enC d s A' c') 26 (0, 0))) => (⟨(en_cell h).1, en_mid h⟩ : W.cell? ⟨g, 0, none⟩ = some (.bool d) ∧ W.rangeAt g 1 (stL s A' c')))
    obtain ⟨D', hD'⟩ : ∃ D', D' = enC d s A' c' := ⟨_, rfl⟩
    rw [← hD'] at r2 bE IE OE ZE T0 hBy2 MID2
    rw [← hD']
    obtain ⟨W4, hW4⟩ : ∃ W4, W4 = (w3.alloc (.cells #[.bool false, .string ⟨#[]⟩, .int .i64 0, .int .i64 0, .int .i64 0, .int .i64 0, .int .i64 0, .string ⟨#[]⟩, .slice none 0 0] 26)).setRow w3.heap.size D' := ⟨_, rfl⟩
    rw [← hW4] at r2 T0 hBy2
    have HW4 := Lib.hid hW4
    have T1 : B2 w w.heap.size w3.heap.size D D' A A' s Ab cb l W4 := ⟨T0.r1, r2, T0.m1, hBy2, T0.bl, T0.bel, T0.big⟩
    have G1 : ∀ W, B2 w w.heap.size w3.heap.size D D' A A' s Ab cb l W → W.cell? ⟨w.heap.size, 0, none⟩ = some (.bool d) := fun W h => (MID.out _ _ h.r1).1
    have G2 : ∀ W, B2 w w.heap.size w3.heap.size D D' A A' s Ab cb l W → W.cell? ⟨w3.heap.size, 0, none⟩ = some (.bool d) := fun W h => (MID2.out _ _ h.r3).1
    have G3 : ∀ W, B2 w w.heap.size w3.heap.size D D' A A' s Ab cb l W → loadSt (.pointer (some ⟨w.heap.size, 1, none⟩)) W = .ok (.value (.agg (stC s A c))) W := fun W h => loadSt_mid (MID.out _ _ h.r1).2
    have G4 : ∀ W, B2 w w.heap.size w3.heap.size D D' A A' s Ab cb l W → loadSt (.pointer (some ⟨w3.heap.size, 1, none⟩)) W = .ok (.value (.agg (stC s A' c'))) W := fun W h => loadSt_mid (MID2.out _ _ h.r3).2
    have K4 := Lib.hid (fun W (h : B2 w w.heap.size w3.heap.size D D' A A' s Ab cb l W) => by have := dSame_any s s A' A c' c W h.m3 h.m1 (by omega); rw [sameS_self] at this; exact this)
    generalize hla : stC s A c = la at *
    generalize hlb : stC s A' c' = lb at *
    have hd : (d != d) = false := by simp
    have g1 := G1 _ T1
    have g2 := G2 _ T1
    have g3 := G3 _ T1
    have g4 := G4 _ T1
    clear hla hlb hD' hW4 r2 bE T0 hBy hBy2 k3 S1 S2 MID2 F1 DB
    go_wp2_with (first
      | (refine wpList_store_row rfl 26 (.tmp 7) (.tmp 28) rfl w3.heap.size D' rfl rfl 26 _ rE IE.out ZE.out OE.out ?_; rw [← HW4.out])
      | fail)
    refine (K4.out _ T1).mono ?_
    rintro e w5 ⟨rfl, k5⟩
    replace T1 := T1.on k5
    have BL0 := T1.bl
    have bel0 := T1.bel
    have big0 := T1.big
    clear T1 g1 g2 g3 g4 G1 G2 G3 G4 K4 k5 rE IE OE ZE HW4
    go_wp2_with fail
    refine (dec_read Ab l cb _ BL0).mono ?_
    rintro e wT ⟨kT, he⟩
    have belT := Below.trans bel0 (kT.mono big0)
    have BLT := BL0.on kT
    have bigT := Nat.le_trans big0 kT.size
    rcases he with rfl | ⟨d', s', A2, c2, rfl, hBy2, hsz2, hcan2, henc2⟩
    · have rE := row_new (w := wT) (k := wT.heap.size) (.cells #[.bool false, .string ⟨#[]⟩, .int .i64 0, .int .i64 0, .int .i64 0, .int .i64 0, .int .i64 0, .string ⟨#[]⟩, .slice none 0 0] 26 (0, 0)) rfl
      have bE : Below wT.heap.size wT ((wT.alloc (.cells #[.bool false, .string ⟨#[]⟩, .int .i64 0, .int .i64 0, .int .i64 0, .int .i64 0, .int .i64 0, .string ⟨#[]⟩, .slice none 0 0] 26)).setRow wT.heap.size #[.bool false, .string ⟨#[]⟩, .int .i64 0, .int .i64 0, .int .i64 0, .int .i64 0, .int .i64 0, .string ⟨#[]⟩, .slice none 0 0]) := Below.setRow (Below.alloc (Below.refl _ _) (Nat.le_refl _) _) (Nat.le_refl _) _
      have IE : Hid ((Try.prog.info? 26).map (·.size) = some (#[.bool false, .string ⟨#[]⟩, .int .i64 0, .int .i64 0, .int .i64 0, .int .i64 0, .int .i64 0, .string ⟨#[]⟩, .slice none 0 0] : Array Value).size) := Lib.hid info_en
      have OE : Hid ((#[.bool false, .string ⟨#[]⟩, .int .i64 0, .int .i64 0, .int .i64 0, .int .i64 0, .int .i64 0, .string ⟨#[]⟩, .slice none 0 0] : Array Value).all (·.oneCell') = true) := Lib.hid (by simp [Value.oneCell'])
      have belX := Below.trans belT (bE.mono bigT)
      have bigX := Nat.le_trans bigT bE.size
      obtain ⟨W5, hW5⟩ : ∃ W5, W5 = (wT.alloc (.cells #[.bool false, .string ⟨#[]⟩, .int .i64 0, .int .i64 0, .int .i64 0, .int .i64 0, .int .i64 0, .string ⟨#[]⟩, .slice none 0 0] 26)).setRow wT.heap.size #[.bool false, .string ⟨#[]⟩, .int .i64 0, .int .i64 0, .int .i64 0, .int .i64 0, .int .i64 0, .string ⟨#[]⟩, .slice none 0 0] := ⟨_, rfl⟩
      rw [← hW5] at belX bigX
      have HW5 := Lib.hid hW5
      clear hW5 bE BLT belT bigT kT
      go_wp2_with (first
        | (refine wpList_store_row rfl 26 (.tmp 9) (.tmp 50) rfl wT.heap.size #[.bool false, .string ⟨#[]⟩, .int .i64 0, .int .i64 0, .int .i64 0, .int .i64 0, .int .i64 0, .string ⟨#[]⟩, .slice none 0 0] rfl rfl 26 _ rE IE.out rfl OE.out ?_; rw [← HW5.out])
        | fail)
      refine (awakeE _).mono ?_
      rintro e wU ⟨rfl, kU⟩
      go_wp2_with fail
      go_ret
      exact ⟨rfl, Below.trans belX (kU.mono bigX)⟩
    · have rE := row_new (w := wT) (k := wT.heap.size) (.cells #[.bool false, .string ⟨#[]⟩, .int .i64 0, .int .i64 0, .int .i64 0, .int .i64 0, .int .i64 0, .string ⟨#[]⟩, .slice none 0 0] 26 (0, 0)) rfl
      have r5 := setRow_heap _ _ _ (enC d' s' A2 c2) _ _ rE
      have bE : Below wT.heap.size wT ((wT.alloc (.cells #[.bool false, .string ⟨#[]⟩, .int .i64 0, .int .i64 0, .int .i64 0, .int .i64 0, .int .i64 0, .string ⟨#[]⟩, .slice none 0 0] 26)).setRow wT.heap.size (enC d' s' A2 c2)) := Below.setRow (Below.alloc (Below.refl _ _) (Nat.le_refl _) _) (Nat.le_refl _) _
      have IE : Hid ((Try.prog.info? 26).map (·.size) = some (enC d' s' A2 c2).size) := Lib.hid info_en
      have OE := Lib.hid (en_one d' s' A2 c2)
      have ZE : Hid ((#[.bool false, .string ⟨#[]⟩, .int .i64 0, .int .i64 0, .int .i64 0, .int .i64 0, .int .i64 0, .string ⟨#[]⟩, .slice none 0 0] : Array Value).size = (enC d' s' A2 c2).size) := Lib.hid rfl
      have belX := Below.trans belT (bE.mono bigT)
      have bigX := Nat.le_trans bigT bE.size
      have BLX := BLT.on bE
      have E2 := Lib.hid (Enc_any d' s' A2 c2 _ (hBy2.on bE) hsz2)
      have L5 := loadEn_row r5 IE.out
      obtain ⟨D2, hD2⟩ : ∃ D2, D2 = enC d' s' A2 c2 := ⟨_, rfl⟩
      rw [← hD2] at r5 bE IE OE ZE belX bigX BLX E2 L5
      rw [← hD2]
      obtain ⟨W5, hW5⟩ : ∃ W5, W5 = (wT.alloc (.cells #[.bool false, .string ⟨#[]⟩, .int .i64 0, .int .i64 0, .int .i64 0, .int .i64 0, .int .i64 0, .string ⟨#[]⟩, .slice none 0 0] 26)).setRow wT.heap.size D2 := ⟨_, rfl⟩
      rw [← hW5] at r5 belX bigX BLX E2 L5
      have HW5 := Lib.hid hW5
      clear hW5 bE BLT belT bigT kT hD2 hBy2
      go_wp2_with (first
        | (refine wpList_store_row rfl 26 (.tmp 9) (.tmp 50) rfl wT.heap.size D2 rfl rfl 26 _ rE IE.out ZE.out OE.out ?_; rw [← HW5.out])
        | fail)
      refine E2.out.mono ?_
      rintro e wU h
      obtain ⟨A3, c3, rfl, hs3, kU⟩ := enc_read hcan2 henc2 h
      have EQ := Lib.hid (EqualB_any A3 Ab l l l.length l.length c3 cb wU hs3.bys (BLX.on kU).bys rfl rfl)
      rw [show (l == l) = true by simp] at EQ
      clear L5 r5 h
      go_wp2_with fail
      refine EQ.out.mono ?_
      rintro e wV ⟨rfl, rfl⟩
      go_wp2_with fail
      go_ret
      exact ⟨rfl, Below.trans belX (kU.mono bigX)⟩

open Go.ChangeShapes Go.WideShapes Go.ChangeAt Go.Deep
section
variable {H : Type} {enc : TypeId × Value → H} {w : World} {held : Bool} {d : DataW H} {p : List MemPlace}
theorem open_bytes {r0 : Reach} {b0 : Nat} {v : Value} (hv : Value.okWide Try.prog w r0 b0 28 v) (h : DataW.Trod enc Try.prog w 0 (fun _ => true) held 28 v d p) :
    ∃ (l : Bs) (A : Option Addr) (c : Nat), v = .slice A l.length c ∧ Sl w A c l ∧ (Within 28 d → l.length ≤ reachBytes) := by
  obtain ⟨a, len, c, rfl⟩ := okWide_slice Try.underlying28 hv
  obtain ⟨n, hf⟩ := h
  obtain ⟨y, A, c', he, ⟨h1, h2, h3, h4⟩, hw⟩ := open_data (x := .slice a len c) (n := n) (by simpa [Value.cells] using hf)
  exact ⟨y, A, c', he, ⟨h1, h2, h3, h4⟩, hw⟩
end
end Go.Proofs.Ytonmkhejmiphnaa
