/-
  NetCarries: its walk.
-/
import Derived.Test.YtabclpffjpcejaaNwC
import Derived.Test.YtabclpffjpcejaaOp
import Derived.Test.YtabclpffjpcejaaHdB
import Derived.Deep.CutBlock
import Derived.Deep.DeepCutAuto
namespace Go.Proofs.Ytabclpffjpcejaa
open Go.RowKit Go.Maps
set_option linter.unusedVariables false
set_option maxRecDepth 100000

attribute [local go_sem ↓] exec_appB
theorem run_app_any {w : World} {base : Nat} {v : Value} {l : Bs} (ty : TypeId) (hown : OwnB w base v l) (A : Option Addr) (c m : Nat) (news : Bs) (hm : m = news.length) (hB : Bys w A news) (hA : A = none → c = 0)
    (hlen : l.length + news.length ≤ 140737488355328) (hbase : base ≤ w.heap.size) :
    ∃ v' w', appB v (.slice A m c) ty w = .ok (.value v') w' ∧ OwnB w' base v' (l ++ news) ∧ w.grownBy w' v.ownBlock := by
  cases A with
  | none =>
    have hn : news = [] := by
      rcases news with _ | ⟨b, r⟩
      · rfl
      · obtain ⟨g, off, hp, _⟩ := hB (by simp)
        cases hp
    subst hn
    obtain rfl := hA rfl
    obtain rfl : m = 0 := hm
    exact ⟨v, w, appB_of (run_append_nilB ty hown), by simpa using hown, ⟨rfl, rfl, rfl, Nat.le_refl _, fun _ _ _ => rfl⟩⟩
  | some ad =>
    obtain ⟨v', w', h1, h2, h3⟩ := run_append_bys ty hown ad c m news hm _ rfl (fun j u hj => by
      rw [List.getElem?_map] at hj
      cases hl : news[j]? with
      | none => rw [hl] at hj; cases hj
      | some b =>
        rw [hl] at hj
        injection hj with hj
        obtain ⟨hjl, hjb⟩ := List.getElem?_eq_some_iff.1 hl
        obtain ⟨g, off, hp, hcs⟩ := hB (by omega)
        injection hp with hp
        subst hp
        rw [show (⟨g, off, none⟩ : Addr).add j = ⟨g, off + j, none⟩ by unfold Addr.add; split <;> simp_all]
        rw [hcs j hjl, hjb, ← hj]; rfl) hlen hbase
    exact ⟨v', w', appB_of h1, h2, h3⟩
def flat (L : List Bs) : Bs := L.foldr (· ++ ·) []
theorem flat_snoc (L : List Bs) (x : Bs) : flat (L ++ [x]) = flat L ++ x := by
  induction L with
  | nil => simp [flat]
  | cons a r ih => simp only [flat, List.cons_append, List.foldr_cons, List.append_assoc] at ih ⊢; rw [ih]
theorem flat_take (L : List Bs) (k : Nat) (hk : k < L.length) : flat (L.take (k + 1)) = flat (L.take k) ++ L[k] := by
  rw [List.take_add_one, List.getElem?_eq_getElem hk]
  exact flat_snoc _ _
theorem flat_len (L : List Bs) : (flat L).length = (L.map List.length).sum := by
  induction L with
  | nil => rfl
  | cons a r ih => simp only [flat, List.foldr_cons, List.length_append, List.map_cons, List.sum_cons] at ih ⊢; rw [ih]
theorem flat_take_le (L : List Bs) (k : Nat) : (flat (L.take k)).length ≤ (L.map List.length).sum := by
  rw [flat_len]
  induction L generalizing k with
  | nil => simp
  | cons a r ih =>
    cases k with
    | zero => simp
    | succ k => simp only [List.take_succ_cons, List.map_cons, List.sum_cons]; have := ih k; omega
/-- All that is in hand between two steps: one connection with b on it, what was written, what was taken. -/
def Car (w : World) (addr : Int) (W G b : Bs) (v10 v11 : Value) (wr : World) : Prop :=
  ∃ (N g : Nat) (v : Value), NetS (w.heap.size + 1) w.heap.size N 1 [⟨1, addr, g, v, b⟩] wr ∧ OwnB wr w.heap.size v10 W ∧ OwnB wr w.heap.size v11 G ∧
    OffV (FootN (w.heap.size + 1) w.heap.size [⟨1, addr, g, v, b⟩]) v10 ∧ OffV (FootN (w.heap.size + 1) w.heap.size [⟨1, addr, g, v, b⟩]) v11 ∧ (v10.ownBlock = none ∨ v10.ownBlock ≠ v11.ownBlock) ∧
    (∀ k, FootN (w.heap.size + 1) w.heap.size [⟨1, addr, g, v, b⟩] k → w.heap.size ≤ k) ∧ Below w.heap.size w wr
theorem fnd_one (c : Cn) (h : c.id = 1) : fnd [c] 1 = some c := by unfold fnd; simp [h]
theorem setC_one (c x : Cn) (h : c.id = x.id) : setC [c] x = [x] := by unfold setC; simp [h]
section
variable {w wr : World} {addr : Int} {W G b : Bs} {v10 v11 : Value}
theorem Car.below (h : Car w addr W G b v10 v11 wr) : Below w.heap.size w wr := by obtain ⟨_, _, _, _, _, _, _, _, _, _, h⟩ := h; exact h
theorem Car.own (h : Car w addr W G b v10 v11 wr) : OwnB wr w.heap.size v10 W ∧ OwnB wr w.heap.size v11 G := by obtain ⟨_, _, _, _, h1, h2, _⟩ := h; exact ⟨h1, h2⟩
theorem CarWrite (h : Car w addr W G b v10 v11 wr) (A : Option Addr) (y : Bs) (n cc : Nat) (hn : n = y.length) (hx : Bys wr A y) (hA : A = none → cc = 0) (hlen : b.length + y.length ≤ 140737488355328) :
    Calls Try.prog 15 #[.pointer (some ⟨w.heap.size + 1, 0, none⟩), .int .i64 1, .slice A n cc] wr fun e w' => e = .returned (.int .i64 0) ∧ Car w addr W G (b ++ y) v10 v11 w' := by
  obtain ⟨N, g, v, hS, h10, h11, o10, o11, o12, hF, hB⟩ := h
  refine (Write_yes wr hS 1 (by unfold I64n; omega) (fnd_one _ rfl) A y n cc hn hx hA hlen).mono ?_
  rintro e w' ⟨rfl, L', ⟨v', rfl⟩, hS', hM, hF'⟩
  have e1 : setC [⟨1, addr, g, v, b⟩] ⟨1, addr, g, v', b ++ y⟩ = [⟨1, addr, g, v', b ++ y⟩] := setC_one _ _ rfl
  dsimp only at hS' hF'
  rw [e1] at hS' hF'
  have hoff : ∀ u (G : Bs), OwnB wr w.heap.size u G → OffV (FootN (w.heap.size + 1) w.heap.size [⟨1, addr, g, v, b⟩]) u → OffV (FootN (w.heap.size + 1) w.heap.size [⟨1, addr, g, v', b ++ y⟩]) u := fun u G ho hoff k hk hf => by
    rcases hF' k hf with h | h
    · exact hoff k hk h
    · have := (ho.lt k hk).2; omega
  refine ⟨rfl, N, g, v', hS', h10.mod hM o10, h11.mod hM o11, hoff _ _ h10 o10, hoff _ _ h11 o11, o12, fun k hk => ?_, Mod.out hB hM hB.size hF⟩
  rcases hF' k hk with h | h
  · exact hF k h
  · have := hB.size; omega
theorem CarTake (h : Car w addr W G b v10 v11 wr) (hlen : b.length ≤ 140737488351232) :
    Calls Try.prog 17 #[.pointer (some ⟨w.heap.size + 1, 0, none⟩), .int .i64 1] wr fun e w' => ∃ A c, e = .returned (.tuple #[.slice A b.length c, .int .i64 0]) ∧ Bys w' A b ∧ (A = none → c = 0) ∧ Car w addr W G [] v10 v11 w' := by
  obtain ⟨N, g, v, hS, h10, h11, o10, o11, o12, hF, hB⟩ := h
  refine (Take_yes wr hS 1 (by unfold I64n; omega) (fnd_one _ rfl) hlen).mono ?_
  rintro e w' ⟨v', rfl, hown, L', ⟨v2, rfl⟩, hS', hM, hF'⟩
  have e1 : setC [⟨1, addr, g, v, b⟩] ⟨1, addr, g, v2, []⟩ = [⟨1, addr, g, v2, []⟩] := setC_one _ _ rfl
  dsimp only at hS' hF'
  rw [e1] at hS' hF'
  obtain ⟨A, c, rfl, -, -, hA, hbys⟩ := row_bys hown
  have hoff : ∀ u, OffV (FootN (w.heap.size + 1) w.heap.size [⟨1, addr, g, v, b⟩]) u → OffV (FootN (w.heap.size + 1) w.heap.size [⟨1, addr, g, v2, []⟩]) u := fun u hoff k hk hf => hoff k hk (hF' k hf)
  exact ⟨A, c, rfl, hbys, hA, N, g, v2, hS', h10.mod hM o10, h11.mod hM o11, hoff _ o10, hoff _ o11, o12, fun k hk => hF k (hF' k hk), Mod.out hB hM hB.size hF⟩
/-- Two takes, one behind the other: nothing more comes, and the first one's bytes stay. -/
theorem CarTake2 (h : Car w addr W G b v10 v11 wr) (hlen : b.length ≤ 140737488351232) :
    Calls Try.prog 17 #[.pointer (some ⟨w.heap.size + 1, 0, none⟩), .int .i64 1] wr fun e w' => ∃ A c, e = .returned (.tuple #[.slice A b.length c, .int .i64 0]) ∧ (A = none → c = 0) ∧
      Calls Try.prog 17 #[.pointer (some ⟨w.heap.size + 1, 0, none⟩), .int .i64 1] w' fun e w2 => ∃ A9 c9, e = .returned (.tuple #[.slice A9 0 c9, .int .i64 0]) ∧ Bys w2 A b ∧ Car w addr W G [] v10 v11 w2 := by
  obtain ⟨N, g, v, hS, h10, h11, o10, o11, o12, hF, hB⟩ := h
  refine (Take_yes wr hS 1 (by unfold I64n; omega) (fnd_one _ rfl) hlen).mono ?_
  rintro e w' ⟨v', rfl, hown, L', ⟨v2, rfl⟩, hS', hM, hF'⟩
  have e1 : setC [⟨1, addr, g, v, b⟩] ⟨1, addr, g, v2, []⟩ = [⟨1, addr, g, v2, []⟩] := setC_one _ _ rfl
  dsimp only at hS' hF' hown
  rw [e1] at hS' hF'
  have hown0 := hown
  obtain ⟨A, c, rfl, -, -, hA, -⟩ := row_bys hown
  refine ⟨A, c, rfl, hA, ?_⟩
  refine (Take_yes w' hS' 1 (by unfold I64n; omega) (fnd_one _ rfl) (by simp)).mono ?_
  rintro e w2 ⟨v9, rfl, hown9, L2, ⟨v3, rfl⟩, hS2, hM2, hF2⟩
  have e2 : setC [⟨1, addr, g, v2, []⟩] ⟨1, addr, g, v3, []⟩ = [⟨1, addr, g, v3, []⟩] := setC_one _ _ rfl
  dsimp only at hS2 hF2 hown9
  rw [e2] at hS2 hF2
  obtain ⟨A9, c9, rfl, -⟩ := row_bys hown9
  have hoff9 : OffV (FootN (w.heap.size + 1) w.heap.size [⟨1, addr, g, v2, []⟩]) (.slice A b.length c) := fun k hk hf => by
    have := hS.lt (hF' k hf)
    rcases hown0.2 with ⟨e3, _⟩ | ⟨g9, cap, cur, e3, hb9, _⟩
    · rw [e3] at hk; cases hk
    · rw [e3] at hk; simp [Value.ownBlock] at hk; omega
  have hown2 := own_mod hown0 hM2 hoff9
  obtain ⟨A', c', e3, -, -, -, hbys⟩ := row_bys hown2
  injection e3 with e3
  subst e3
  have hoff : ∀ u, OffV (FootN (w.heap.size + 1) w.heap.size [⟨1, addr, g, v, b⟩]) u → OffV (FootN (w.heap.size + 1) w.heap.size [⟨1, addr, g, v2, []⟩]) u := fun u hoff k hk hf => hoff k hk (hF' k hf)
  have hoff2 : ∀ u, OffV (FootN (w.heap.size + 1) w.heap.size [⟨1, addr, g, v, b⟩]) u → OffV (FootN (w.heap.size + 1) w.heap.size [⟨1, addr, g, v3, []⟩]) u := fun u hoff k hk hf => hoff k hk (hF' k (hF2 k hf))
  have hB1 := Mod.out hB hM hB.size hF
  exact ⟨A9, c9, rfl, hbys, N, g, v3, hS2, (h10.mod hM o10).mod hM2 (hoff _ o10), (h11.mod hM o11).mod hM2 (hoff _ o11), hoff2 _ o10, hoff2 _ o11, o12, fun k hk => hF k (hF' k (hF2 k hk)), Mod.out hB1 hM2 hB1.size (fun k hk => hF k (hF' k hk))⟩
theorem CarAddr (h : Car w addr W G b v10 v11 wr) :
    Calls Try.prog 22 #[.pointer (some ⟨w.heap.size + 1, 0, none⟩), .int .i64 1] wr fun e w' => e = .returned (.tuple #[.int .i64 addr, .bool true]) ∧ w' = wr := by
  obtain ⟨N, g, v, hS, _⟩ := h
  exact Addr_yes wr hS 1 (by unfold I64n; omega) (fnd_one _ rfl)
/-- The net alone. -/
def CarN (w : World) (addr : Int) (b : Bs) (wr : World) : Prop := ∃ (N g : Nat) (v : Value), NetS (w.heap.size + 1) w.heap.size N 1 [⟨1, addr, g, v, b⟩] wr ∧ (∀ k, FootN (w.heap.size + 1) w.heap.size [⟨1, addr, g, v, b⟩] k → w.heap.size ≤ k) ∧ Below w.heap.size w wr
theorem Car.fin {w' : World} (h : Car w addr W G b v10 v11 wr) (hg : wr.grownBy w' v11.ownBlock) : CarN w addr b w' ∧ OwnB w' w.heap.size v10 W := by
  obtain ⟨N, g, v, hS, h10, h11, o10, o11, o12, hF, hB⟩ := h
  have hM : Mod (fun k => v11.ownBlock = some k) wr w' := Mod.grown hg (fun k e => e)
  exact ⟨⟨N, g, v, hS.mod hM (fun k hk e => o11 k e hk), hF, Mod.out hB hM hB.size (fun k e => (h11.lt k e).1)⟩, h10.kept hg o12⟩
theorem CarDrop (h : CarN w addr b wr) :
    Calls Try.prog 20 #[.pointer (some ⟨w.heap.size + 1, 0, none⟩), .int .i64 1] wr fun e w' => e = .returned (.int .i64 0) ∧ (∃ N, NetS (w.heap.size + 1) w.heap.size N 1 [] w') ∧ Below w.heap.size w w' := by
  obtain ⟨N, g, v, hS, hF, hB⟩ := h
  refine (Drop_yes wr hS 1 (by unfold I64n; omega) (fnd_one _ rfl)).mono ?_
  rintro e w' ⟨rfl, hS', hM⟩
  exact ⟨rfl, ⟨N, by simpa [dropC] using hS'⟩, Mod.out hB hM hB.size hF⟩
theorem Car.want {w' : World} {W' : Bs} {v' : Value} (h : Car w addr W G b v10 v11 wr) (ho : OwnB w' w.heap.size v' W') (hg : wr.grownBy w' v10.ownBlock) (hfr : ∀ k, v'.ownBlock = some k → v10.ownBlock = some k ∨ wr.heap.size ≤ k) : Car w addr W' G b v' v11 w' := by
  obtain ⟨N, g, v, hS, h10, h11, o10, o11, o12, hF, hB⟩ := h
  have hM : Mod (fun k => v10.ownBlock = some k) wr w' := Mod.grown hg (fun k e => e)
  refine ⟨N, g, v, hS.mod hM (fun k hk e => o10 k e hk), ho, h11.kept hg ?_, fun k hk hf => ?_, o11, ?_, hF, Mod.out hB hM hB.size (fun k e => (h10.lt k e).1)⟩
  · cases hv : v11.ownBlock with
    | none => exact .inl rfl
    | some j =>
      refine .inr (fun e => ?_)
      rcases o12 with h | h
      · rw [h] at e; cases e
      · exact h (e.symm.trans hv.symm)
  · rcases hfr k hk with h | h
    · exact o10 k h hf
    · have := hS.lt hf; omega
  · cases hv : v'.ownBlock with
    | none => exact .inl rfl
    | some j =>
      refine .inr (fun e => ?_)
      rcases hfr j hv with h | h
      · rcases o12 with h2 | h2
        · rw [h2] at h; cases h
        · exact h2 (h.trans e)
      · have := (h11.lt j e.symm).2; omega
theorem Car.got {w' : World} {G' : Bs} {v' : Value} (h : Car w addr W G b v10 v11 wr) (ho : OwnB w' w.heap.size v' G') (hg : wr.grownBy w' v11.ownBlock) (hfr : ∀ k, v'.ownBlock = some k → v11.ownBlock = some k ∨ wr.heap.size ≤ k) : Car w addr W G' b v10 v' w' := by
  obtain ⟨N, g, v, hS, h10, h11, o10, o11, o12, hF, hB⟩ := h
  have hM : Mod (fun k => v11.ownBlock = some k) wr w' := Mod.grown hg (fun k e => e)
  refine ⟨N, g, v, hS.mod hM (fun k hk e => o11 k e hk), h10.kept hg o12, ho, o10, fun k hk hf => ?_, ?_, hF, Mod.out hB hM hB.size (fun k e => (h11.lt k e).1)⟩
  · rcases hfr k hk with h | h
    · exact o11 k h hf
    · have := hS.lt hf; omega
  · cases hv : v10.ownBlock with
    | none => exact .inl rfl
    | some j =>
      refine .inr (fun e => ?_)
      rcases hfr j e.symm with h | h
      · rcases o12 with h2 | h2
        · rw [h2] at hv; cases hv
        · exact h2 (hv.trans h.symm)
      · have := (h10.lt j hv).2; omega
end
set_option maxHeartbeats 4000000 in
theorem NetCarries_any (w : World) (a : Int) (ha : I64n a) (A : Option Addr) (L : List Bs) (n c : Nat) (hn : n = L.length) (hL : Byss w A L) (hs : (L.map List.length).sum ≤ 1048576) (hnm : n ≤ 9223372036854775807) (t : Int) (ht : 0 ≤ t ∧ t ≤ 18446744073709551615) :
    Calls Try.prog 4 #[.int .i64 a, .slice A n c, .int .u64 t] w fun e w' => e = .returned (.bool true) ∧ Below w.heap.size w w' := by
  obtain ⟨un, hun⟩ : ∃ un : Nat, un = (a % 18446744073709551616).toNat := ⟨_, rfl⟩
  have hwr : IntKind.u64.wrap a = (un : Int) := by
    have : IntKind.u64.wrap a = a % 18446744073709551616 := rfl
    rw [this, hun]; omega
  obtain ⟨x, hx⟩ : ∃ x : Nat, x = un % 4294967296 := ⟨_, rfl⟩
  have hx2 : (un : Int) % 4294967296 = (x : Int) := by omega
  have hx3 : x ≤ 4294967295 := by omega
  have hx0 : (x : Int) ≤ 4294967295 := by omega
  have NN := Lib.hid (NewN_any w)
  have HN := Lib.hid hn
  have HL := Lib.hid hL
  have HS := Lib.hid hs
  clear hx hn hL hs hun ha
  go_enter Try.func4, Try.ntmps4
  go_wp2_with fail
  refine NN.out.mono ?_
  rintro e w1 ⟨rfl, s1, b1, z1⟩
  have D1 := Lib.hid (Dial_yes w1 s1 (by omega) (by omega) x hx3)
  have B1 := Lib.hid b1
  have Z1 := Lib.hid z1
  clear s1 b1 NN z1
  go_wp2_with fail
  refine D1.out.mono ?_
  rintro e w2 ⟨rfl, L', ⟨g, rfl⟩, s2, m2, f2⟩
  have hC0 : Car w x [] [] [] (.slice none 0 0) (.slice none 0 0) w2 := by
    refine ⟨_, g, _, s2, .inl ⟨rfl, rfl⟩, .inl ⟨rfl, rfl⟩, ?_, ?_, .inl rfl, ?_, Mod.out B1.out m2 B1.out.size ?_⟩
    · intro k hk; simp [Value.ownBlock] at hk
    · intro k hk; simp [Value.ownBlock] at hk
    · intro k hk
      rcases f2 k hk with e | e
      · rcases e with e | e | ⟨d, hd, _⟩
        · omega
        · omega
        · cases hd
      · have := Z1.out; omega
    · intro k hk
      rcases hk with e | e | ⟨d, hd, _⟩
      · omega
      · omega
      · cases hd
  have C0 := Lib.hid hC0
  clear s2 m2 f2 hC0 D1 B1 Z1
  go_wp2_with fail
  go_loopw [10, 11, 40] (fun v10 v11 u wr => ∃ k : Nat, u = .int .i64 k ∧ k ≤ n ∧ ∃ G b, G ++ b = flat (L.take k) ∧ Car w x (flat (L.take k)) G b v10 v11 wr) (fun _ _ u _ => n - (intOf u).toNat)
  case atStart => exact ⟨0, rfl, by omega, [], [], by simp [flat], by simpa [flat] using C0.out⟩
  case round =>
    obtain ⟨k, rfl, hk, G, b, hGb, hCar⟩ := hrel
    rename_i wr
    have hGl : G.length + b.length = (flat (L.take k)).length := by rw [← hGb, List.length_append]
    have hfl := flat_take_le L k
    have hsum := HS.out
    have CR := Lib.hid hCar
    by_cases hlt : k < n
    · have hlt' : (k : Int) < (n : Int) := by omega
      have hkl : k < L.length := by have := HN.out; omega
      obtain ⟨g1, o1, rfl, hc1⟩ := HL.out (by omega)
      obtain ⟨a1, d1, e1, hb1, hd1, hm1, hn1⟩ := hc1 k hkl
      have hfs := flat_take L k hkl
      have hfl2 := flat_take_le L (k + 1)
      have hyl : (L[k]).length + (flat (L.take k)).length ≤ 1048576 := by rw [hfs, List.length_append] at hfl2; omega
      obtain ⟨y, hy⟩ : ∃ y, y = L[k] := ⟨_, rfl⟩
      rw [← hy] at e1 hb1 hd1 hfs hyl
      obtain ⟨W, hW⟩ : ∃ W, W = flat (L.take k) := ⟨_, rfl⟩
      rw [← hW] at hGb hGl hfl hfs hyl CR
      have HFS := Lib.hid hfs
      obtain ⟨ly, hly⟩ : ∃ ly, ly = y.length := ⟨_, rfl⟩
      rw [← hly] at e1 hd1 hyl
      have e1' := cell_on e1 hCar.below
      have HLY := Lib.hid hly
      have HB1 := Lib.hid hb1
      have HN1 := Lib.hid hn1
      have CW := Lib.hid (CarWrite CR.out a1 y ly d1 hly (hb1.on hCar.below) hn1 (by rw [← hly]; omega))
      have hlW : W.length + y.length ≤ 140737488355328 := by rw [← hly]; omega
      have HLW := Lib.hid hlW
      have HGB := Lib.hid hGb
      have HGL := Lib.hid (show G.length + b.length + ly ≤ 1048576 by omega)
      obtain ⟨s, hs⟩ : ∃ s : Nat, s = k % 32 := ⟨_, rfl⟩
      have hs1 : (k : Int) % 32 = (s : Int) := by omega
      have hs2 : (s : Int) ≤ 64 := by omega
      have hs3 : (0 : Int) ≤ (s : Int) := by omega
      clear hfs hGb hGl hfl hyl hfl2 hly hb1 hn1 hlW hW hy hc1 e1 hCar hs hsum
      go_wp2_with fail
      refine CW.out.mono ?_
      rintro e w3 ⟨rfl, hC3⟩
      have C3 := Lib.hid hC3
      clear hC3 CW
      have B3 : Hid (Bys w3 a1 y) := Lib.hid (HB1.out.on C3.out.below)
      have hs3z := C3.out.below.size
      obtain ⟨A5, c5, rfl, -⟩ := C3.out.own.1.bysN
      go_wp2_with (at_builtin; (with_reducible refine wpList_append_bys rfl _ _ rfl w.heap.size (.slice A5 W.length c5) W rfl C3.out.own.1 a1 d1 ly y rfl HLY.out B3.out HN1.out HLW.out hs3z ?_))
      intro v5 w4 ho4 hg4 hf4
      have C4 := Lib.hid (C3.out.want ho4 hg4 hf4)
      obtain ⟨A6, c6, rfl, -⟩ := ho4.bysN
      clear ho4 hg4 hf4 B3 C3
      go_wp2_with fail
      · have TK := Lib.hid (CarTake C4.out (by rw [List.length_append, ← HLY.out]; have := HGL.out; omega))
        obtain ⟨A7, c7, rfl, -⟩ := C4.out.own.2.bysN
        refine TK.out.mono ?_
        rintro e w5 ⟨A8, c8, rfl, hb8, hA8, hC5⟩
        have C5 := Lib.hid hC5
        have hl8 : (b ++ y).length = b.length + ly := by rw [List.length_append, ← HLY.out]
        obtain ⟨l8, hl8e⟩ : ∃ l8, l8 = (b ++ y).length := ⟨_, rfl⟩
        rw [← hl8e] at hl8 ⊢
        have HL8 := Lib.hid hl8e
        have HB8 := Lib.hid hb8
        have HA8 := Lib.hid hA8
        have HLG : Hid (G.length + (b ++ y).length ≤ 140737488355328) := Lib.hid (by rw [← HL8.out, hl8]; have := HGL.out; omega)
        have hs5 := C5.out.below.size
        clear hl8e hb8 hA8 hC5 TK hl8
        go_wp2_with (at_builtin; (with_reducible refine wpList_append_bys rfl _ _ rfl w.heap.size (.slice A7 G.length c7) G rfl C5.out.own.2 A8 c8 l8 (b ++ y) rfl HL8.out HB8.out HA8.out HLG.out hs5 ?_))
        intro v6 w6 ho6 hg6 hf6
        have C6 := Lib.hid (C5.out.got ho6 hg6 hf6)
        clear ho6 hg6 hf6 C5
        go_wp2_with fail
        go_roundw
        case rel => exact ⟨k + 1, by go_num, by omega, G ++ (b ++ y), [], by rw [HFS.out, List.append_nil, ← List.append_assoc, HGB.out], by rw [HFS.out]; first | exact C6.out | (have h := C6.out; rw [List.length_append] at h; exact h)⟩
        case measure => simp [intOf]; omega
      · go_roundw
        case rel => exact ⟨k + 1, by go_num, by omega, G, b ++ y, by rw [HFS.out, ← List.append_assoc, HGB.out], by rw [HFS.out]; first | exact C4.out | (have h := C4.out; rw [List.length_append] at h; exact h)⟩
        case measure => simp [intOf]; omega
    · obtain rfl : k = n := by omega
      have e0 : L.take k = L := List.take_of_length_le (by have := HN.out; omega)
      rw [e0] at hGb hGl CR hfl
      obtain ⟨W, hW⟩ : ∃ W, W = flat L := ⟨_, rfl⟩
      rw [← hW] at hGb hGl CR hfl
      have TK := Lib.hid (CarTake2 CR.out (by omega))
      have HGB := Lib.hid hGb
      have HLG : Hid (G.length + b.length ≤ 140737488355328) := Lib.hid (by omega)
      have HWL : Hid (W.length ≤ 1048576) := Lib.hid (by omega)
      obtain ⟨A5, c5, rfl, -⟩ := CR.out.own.1.bysN
      obtain ⟨A7, c7, rfl, -⟩ := CR.out.own.2.bysN
      clear hGb hGl hfl hW e0 hCar hsum
      go_wp2_with fail
      refine TK.out.mono ?_
      rintro e w5 ⟨A8, c8, rfl, hA8, hTK2⟩
      have TK2 := Lib.hid hTK2
      clear hTK2 TK CR
      obtain ⟨l8, hl8e⟩ : ∃ l8, l8 = b.length := ⟨_, rfl⟩
      rw [← hl8e]
      have HL8 := Lib.hid hl8e
      have HA8 := Lib.hid hA8
      clear hl8e hA8
      go_wp2_with fail
      refine TK2.out.mono ?_
      rintro e w6 ⟨A9, c9, rfl, hb8, hC6⟩
      have C6 := Lib.hid hC6
      have HB8 := Lib.hid hb8
      have AD := Lib.hid (CarAddr C6.out)
      clear hC6 TK2 hb8
      go_wp2_with fail
      refine AD.out.mono ?_
      rintro e w7 ⟨rfl, rfl⟩
      clear AD
      obtain ⟨v9, w9, hap, ho9, hg9⟩ := run_app_any 29 C6.out.own.2 A8 c8 l8 b HL8.out HB8.out HA8.out HLG.out C6.out.below.size
      obtain ⟨hN9, hw9⟩ := C6.out.fin hg9
      obtain ⟨A10, c10, rfl, hb10, -⟩ := ho9.bys
      obtain ⟨A11, c11, e11, hb11, -⟩ := hw9.bys
      injection e11 with e11 e12 e13
      subst e11 e13
      obtain ⟨l9, hl9⟩ : ∃ l9, l9 = (G ++ b).length := ⟨_, rfl⟩
      obtain ⟨l5, hl5⟩ : ∃ l5, l5 = W.length := ⟨_, rfl⟩
      have EQ := Lib.hid (EqualB_any A10 A5 (G ++ b) W l9 l5 c10 c5 w9 hb10 hb11 hl9 hl5)
      rw [HGB.out, show (W == W) = true by simp] at EQ
      rw [← hl9] at hap
      rw [← hl5]
      have DR := Lib.hid (CarDrop hN9)
      have hxx : ((x : Int) == (x : Int)) = true := by simp
      clear ho9 hg9 hN9 hw9 hb10 hb11 hl9 hl5 C6 HB8 e12
      go_wp2_with fail
      refine EQ.out.mono ?_
      rintro e w10 ⟨rfl, rfl⟩
      clear EQ
      go_wp2_with fail
      refine DR.out.mono ?_
      rintro e w11 ⟨rfl, ⟨N, hS11⟩, hB11⟩
      have WR := Lib.hid (Write_no w11 hS11 1 (by unfold I64n; omega) rfl none 0 0)
      have HB11 := Lib.hid hB11
      clear DR hS11 hB11
      go_wp2_with fail
      refine WR.out.mono ?_
      rintro e w12 ⟨rfl, rfl⟩
      go_wp2_with fail
      go_ret
      exact ⟨rfl, HB11.out⟩
end Go.Proofs.Ytabclpffjpcejaa
