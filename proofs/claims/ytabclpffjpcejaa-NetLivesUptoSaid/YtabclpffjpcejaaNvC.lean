/-
  The document's net: Write.
-/
import Derived.Test.YtabclpffjpcejaaNvB
namespace Go.Proofs.Ytabclpffjpcejaa
open Go.RowKit Go.Maps
set_option linter.unusedVariables false
set_option maxRecDepth 100000

theorem exec_appBn (ev : Operand → Value) (d : Option Tmp) (x y : Operand) (t : TypeId) (p : String) (f : Array Edge) (w : World) : (execOp ev { dst := d, op := .call { callee := .builtin .append, args := #[x, y], argTypes := #[29, 29] }, type := t, pos := p, after := f, guard := none }).run Try.prog w = appB (ev x) (ev y) t w := by
  unfold execOp appB
  simp only [resolve, invoke, builtin, Sem.run_bind, Sem.run_pure, Result.andThen_ok, List.map_toArray, List.map_cons, List.map_nil]
attribute [local go_sem ↓] exec_appBn
theorem vrow_lower {w : World} {base n sz : Nat} {e : TypeId} {v : Value} {xs : List Value} (h : w.ownsRow base e sz v n xs) : w.ownsRow 0 e sz v n xs := by
  refine ⟨h.1, ?_⟩
  rcases h.2 with h | ⟨g, cap, cur, hv, hb, r⟩
  · exact .inl h
  · exact .inr ⟨g, cap, cur, hv, Nat.zero_le _, r⟩
/-- An append onto a row, its answer as the walk takes it. -/
theorem run_app_row {w : World} {B : Nat} {v : Value} {l : Bs} (ty : TypeId) (hown : Bv w B v l) (A : Option Addr) (c m : Nat) (news : Bs) (hm : m = news.length) (hB : Bys w A news) (hA : A = none → c = 0)
    (hlen : l.length + news.length ≤ 140737488355328) (hbase : B ≤ w.heap.size) :
    ∃ v' w', appB v (.slice A m c) ty w = .ok (.value v') w' ∧ Bv w' B v' (l ++ news) ∧ w.grownBy w' v.ownBlock ∧ (∀ k, v'.ownBlock = some k → v.ownBlock = some k ∨ w.heap.size ≤ k) := by
  obtain ⟨i0, hi, hz0, hz1, hz2⟩ := info_parts info_u8
  subst hm
  cases A with
  | none =>
    have hn : news = [] := by
      rcases news with _ | ⟨b, r⟩
      · rfl
      · obtain ⟨g, off, hp, _⟩ := hB (by simp)
        cases hp
    subst hn
    obtain rfl := hA rfl
    exact ⟨v, w, appB_of (run_append_nilR ty (vrow_lower hown)), by simpa using hown, ⟨rfl, rfl, rfl, Nat.le_refl _, fun _ _ _ => rfl⟩, fun k hk => .inl hk⟩
  | some ad =>
    obtain ⟨v', w', hr, h3, h4, -, h6⟩ := run_append_own_at (P := Try.prog) w B 29 ty 5 i0 (.int .u8 0) 1 1 Try.underlying29 hi hz0 hz1 hz2 rfl (by decide) v l.length (l.map byteV) hown ad news.length c (news.map byteV) (by simp) (fun j u hj => by
      rw [List.getElem?_map] at hj
      cases hl : news[j]? with
      | none => rw [hl] at hj; cases hj
      | some b =>
        rw [hl] at hj
        injection hj with hj
        obtain ⟨hjl, hjb⟩ := List.getElem?_eq_some_iff.1 hl
        obtain ⟨g, off, hp, hcs⟩ := hB (by omega)
        injection hp with hp
        subst hp
        rw [show (⟨g, off, none⟩ : Addr).add j = ⟨g, off + j, none⟩ by unfold Addr.add; split <;> simp_all]
        rw [hcs j hjl, hjb, ← hj]; rfl) (fun u hu => by obtain ⟨b, _, rfl⟩ := List.mem_map.1 hu; rfl) (by unfold maxLen; omega) (by omega) hbase
    refine ⟨v', w', appB_of hr, by show w'.ownsRow B 5 1 v' (l ++ news).length ((l ++ news).map byteV); rw [List.length_append, List.map_append]; exact h3, h4, fun k hk => ?_⟩
    rcases h6 with e | e
    · exact .inl (by rw [← e]; exact hk)
    · rw [e] at hk; injection hk with hk; exact .inr (by omega)
section
variable {B x last : Nat} {v : Value} {L : List Cr}
theorem WriteR_no (w : World) (h : RefS B x last v L w) (hl : L.length ≤ 1000) (a : Int) (ha : ∀ c ∈ L, (c.id : Int) ≠ a) (A : Option Addr) (n cc : Nat) :
    Calls Try.prog 16 #[.pointer (some ⟨x, 0, none⟩), .int .i64 a, .slice A n cc] w fun e w' => e = .returned (.int .i64 150) ∧ Below w.heap.size w w' := by
  have PL := Lib.hid (placeN_any w h hl a)
  have HA := Lib.hid ha
  clear h ha
  go_enter Try.func16, Try.ntmps16
  go_wp2_with fail
  refine PL.out.mono ?_
  rintro e w1 ⟨⟨i, hi, hid, rfl⟩ | ⟨hno, rfl⟩, b1⟩
  · exact absurd hid (HA.out _ (List.getElem_mem hi))
  · have B1 := Lib.hid b1
    clear b1 hno PL
    go_wp2_with fail
    go_ret
    exact ⟨rfl, B1.out⟩
set_option maxHeartbeats 2000000 in
theorem WriteR_yes (w : World) (h : RefS B x last v L w) (hBw : B ≤ w.heap.size) (hl : L.length ≤ 1000) (i : Nat) (hi : i < L.length) (A : Option Addr) (y : Bs) (n cc : Nat) (hn : n = y.length) (hy : Bys w A y) (hA : A = none → cc = 0) (hlen : L[i].b.length + y.length ≤ 140737488355328) :
    Calls Try.prog 16 #[.pointer (some ⟨x, 0, none⟩), .int .i64 L[i].id, .slice A n cc] w fun e w' => e = .returned (.int .i64 0) ∧ ∃ v', RefS B x last v (L.set i { L[i] with v := v', b := L[i].b ++ y }) w' ∧ Mod (FootV x v) w w' ∧ (∀ k, v'.ownBlock = some k → w.heap.size ≤ k) := by
  have PL := Lib.hid (placeN_any w h hl L[i].id)
  have H := Lib.hid h
  have HY := Lib.hid hy
  have HNY := Lib.hid hn
  have HA := Lib.hid hA
  have HBB := Lib.hid hBw
  clear h hy hn hA hBw
  go_enter Try.func16, Try.ntmps16
  go_wp2_with fail
  refine PL.out.mono ?_
  rintro e w1 ⟨⟨j, hj, hid, rfl⟩ | ⟨hno, rfl⟩, b1⟩
  · obtain rfl : j = i := placed H.out.rise hj hi hid
    have h1 := H.out.below b1
    obtain ⟨g, c, rfl, hc1, hc2, d0, d1, d2, hz⟩ := h1.cells hi
    obtain ⟨nn, hnn⟩ : ∃ n, n = L.length := ⟨_, rfl⟩
    have c0 := h1.cell.1
    rw [← hnn] at c0 hc1
    have hin : (j : Int) < (nn : Int) := by omega
    have hin0 : (0 : Int) ≤ (j : Int) := by omega
    have hnc : c ≤ 9223372036854775807 := by unfold maxLen at hc2; omega
    obtain ⟨A9, c9, hv9, hc9, hm9, hA9, hb9⟩ := row_bys (h1.bv _ (List.getElem_mem hi))
    have hb1s : B ≤ w1.heap.size := Nat.le_trans HBB.out b1.size
    obtain ⟨W2, hW2⟩ : ∃ W2, W2 = (w1.alloc (.cells #[] 5)).drew := ⟨_, rfl⟩
    have hB2 : Below w1.heap.size w1 W2 := by rw [hW2]; exact Below.drew (Below.alloc (Below.refl _ _) (Nat.le_refl _) _)
    have hz2 : W2.heap.size = w1.heap.size + 1 := by rw [hW2]; show (w1.alloc _).heap.size = _; simp
    have hrow2 : Bv W2 B (.slice (some ⟨w1.heap.size, 0, none⟩) 0 0) [] := ⟨rfl, .inr ⟨w1.heap.size, 0, #[], rfl, hb1s, by rw [hW2]; exact row_new _ rfl, Nat.le_refl _, Nat.zero_le _, rfl, by simp⟩⟩
    obtain ⟨lb, hlb⟩ : ∃ n, n = L[j].b.length := ⟨_, rfl⟩
    obtain ⟨v3, W3, ap3, own3, g3, f3⟩ := run_app_row 29 hrow2 A9 c9 lb L[j].b hlb (hb9.on hB2) hA9 (by rw [List.length_nil]; omega) (by omega)
    rw [List.nil_append] at own3
    have ob2 : (Value.slice (some ⟨w1.heap.size, 0, none⟩) 0 0).ownBlock = some w1.heap.size := rfl
    have hB3 : Below w1.heap.size w1 W3 := Below.grown hB2 g3 (by omega) (fun k e => by rw [ob2] at e; injection e with e; omega)
    have hy3 : Bys W3 A y := HY.out.on (Below.trans b1 (hB3.mono b1.size))
    obtain ⟨v4, W4, ap4, own4, g4, f4⟩ := run_app_row 29 own3 A cc n y HNY.out hy3 HA.out hlen (by have := hB3.size; omega)
    have hv3 : ∀ k, v3.ownBlock = some k → w1.heap.size ≤ k := fun k e => by
      rcases f3 k e with h | h
      · rw [ob2] at h; injection h with h; omega
      · omega
    have hB4 : Below w1.heap.size w1 W4 := Below.grown hB3 g4 hB3.size (fun k e => hv3 k e)
    have hv4 : ∀ k, v4.ownBlock = some k → w1.heap.size ≤ k := fun k e => by
      rcases f4 k e with h | h
      · exact hv3 k h
      · have := hB3.size; omega
    obtain ⟨v3a, v3c, hv3s, -⟩ := row_slice own3
    obtain ⟨v4a, v4c, hv4s, -⟩ := row_slice own4
    rw [← hlb] at hv3s
    have k2 := (h1.below hB2).cell.1
    have k3 := (h1.below hB3).cell.1
    have k4 := (h1.below hB4).cell.1
    have h4 := h1.below hB4
    rw [← hnn] at k2 k3 k4 h4
    obtain ⟨g', c', hg', -, -, -, -, -, hz4⟩ := (h1.below hB4).cells hi
    injection hg' with hg' _ hg''
    injection hg' with hg'
    injection hg' with hg'
    subst hg'
    have z4 := hz4 (j * 3 + 2)
    have hp := h4.put hnn hi v4 (L[j].b ++ y) own4
    rw [hnn] at hp
    have hM : Mod (FootV x (.slice (some ⟨g, 0, none⟩) L.length c)) w (W4.setCell ⟨g, j * 3 + 2, none⟩ v4) := (Mod.below (Below.trans b1 (hB4.mono b1.size))).trans (S' := fun k => k = g) ⟨rfl, rfl, rfl, by simp, fun i _ hn => Below.heap_setCell _ _ _ _ hn⟩ (fun k e => .inl (.inr (by rw [e]; rfl)))
    have FIN : Hid (∃ v', RefS B x last (.slice (some ⟨g, 0, none⟩) L.length c) (L.set j { L[j] with v := v', b := L[j].b ++ y }) (W4.setCell ⟨g, j * 3 + 2, none⟩ v4) ∧ Mod (FootV x (.slice (some ⟨g, 0, none⟩) L.length c)) w (W4.setCell ⟨g, j * 3 + 2, none⟩ v4) ∧ (∀ k, v'.ownBlock = some k → w.heap.size ≤ k)) := Lib.hid ⟨v4, hp, hM, fun k e => Nat.le_trans b1.size (hv4 k e)⟩
    have dd2 := cell_on d2 hB2
    have dd4 := cell_on d2 hB4
    rw [hv9, ← hlb] at d2 dd2 dd4
    rw [hW2] at dd2 k2 ap3
    clear h1 h4 hz hz4 hc2 hnn b1 PL hid H d1 d0 hp hM hv9 hc9 hm9 hA9 hb9 hb1s hW2 hB2 hz2 hrow2 own3 g3 f3 hB3 hy3 own4 g4 f4 hv3 hB4 hv4 hlb hlen
    rw [hv3s] at ap3 ap4
    generalize (L[j].b ++ y).length = ly4 at hv4s
    rw [hv4s] at ap4 FIN
    go_wp2_with fail
    go_region
    all_goals (go_wp2_with fail; go_ret; exact ⟨rfl, FIN.out⟩)
  · exact absurd rfl (hno _ (List.getElem_mem hi))
end
end Go.Proofs.Ytabclpffjpcejaa
