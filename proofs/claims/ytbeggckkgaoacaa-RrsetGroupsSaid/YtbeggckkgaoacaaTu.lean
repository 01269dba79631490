/-
  Bytes of the call's own that turn, and what stays; Spoil of data of the call's own.
-/
import Derived.Test.YtbeggckkgaoacaaSp
import Derived.Test.YtbeggckkgaoacaaEl
namespace Go.Proofs.Ytbeggckkgaoacaa
open Go.RowKit
set_option linter.unusedVariables false
set_option maxRecDepth 100000

/-- What comes behind: new blocks, and bytes turned in blocks from B on. -/
structure TurnS (B : Nat) (w w' : World) : Prop where
  os : w'.os = w.os
  tape : w'.tape = w.tape
  output : w'.output = w.output
  size : w.heap.size ≤ w'.heap.size
  block : ∀ k, k < w.heap.size → w'.heap[k]? = w.heap[k]? ∨ (B ≤ k ∧ ∃ cs cs' : Array Value, w.heap[k]? = some (.cells cs 5 (0, 0)) ∧ w'.heap[k]? = some (.cells cs' 5 (0, 0)) ∧ cs'.size = cs.size ∧ ∀ (j : Nat) (b : UInt8), cs[j]? = some (byteV b) → ∃ b' : UInt8, cs'[j]? = some (byteV b'))
theorem TurnS.refl (B : Nat) (w : World) : TurnS B w w := ⟨rfl, rfl, rfl, Nat.le_refl _, fun _ _ => .inl rfl⟩
theorem TurnS.trans {B : Nat} {w w1 w2 : World} (h : TurnS B w w1) (k : TurnS B w1 w2) : TurnS B w w2 := by
  refine ⟨k.os.trans h.os, k.tape.trans h.tape, k.output.trans h.output, Nat.le_trans h.size k.size, fun i hi => ?_⟩
  rcases h.block i hi with e1 | ⟨b1, cs, cs1, e1, e2, e3, e4⟩
  · rcases k.block i (Nat.lt_of_lt_of_le hi h.size) with f1 | ⟨b2, ds, ds1, f1, f2, f3, f4⟩
    · exact .inl (f1.trans e1)
    · exact .inr ⟨b2, ds, ds1, e1.symm.trans f1, f2, f3, f4⟩
  · rcases k.block i (Nat.lt_of_lt_of_le hi h.size) with f1 | ⟨b2, ds, ds1, f1, f2, f3, f4⟩
    · exact .inr ⟨b1, cs, cs1, e1, f1.trans e2, e3, e4⟩
    · rw [e2] at f1
      injection f1 with f1
      injection f1 with f1 _ _
      subst f1
      refine .inr ⟨b1, cs, ds1, e1, f2, f3.trans e3, fun j b hb => ?_⟩
      obtain ⟨b', hb'⟩ := e4 j b hb
      exact f4 j b' hb'
theorem TurnS.of {B : Nat} {w w' : World} (h : Below w.heap.size w w') : TurnS B w w' := ⟨h.os, h.tape, h.output, h.size, fun k hk => .inl (h.block k hk)⟩
theorem TurnS.below {B : Nat} {w w' : World} (h : TurnS B w w') (hb : B ≤ w.heap.size) : Below B w w' := by
  refine ⟨h.os, h.tape, h.output, h.size, fun k hk => ?_⟩
  rcases h.block k (Nat.lt_of_lt_of_le hk hb) with e | ⟨e, _⟩
  · exact e
  · omega
theorem TurnS.other {B base size n : Nat} {w w' : World} {e : TypeId} {v : Value} {xs : List Value} (h : TurnS B w w') (ho : w.ownsRow base e size v n xs) (he : e ≠ 5) : w'.ownsRow base e size v n xs := by
  refine ⟨ho.1, ?_⟩
  rcases ho.2 with ⟨h1, h2⟩ | ⟨g, cap, cur, hv, hb, hh, hc, hm, hsz, ht⟩
  · exact .inl ⟨h1, h2⟩
  · have hg := (Array.getElem?_eq_some_iff.1 hh).1
    rcases h.block g hg with e1 | ⟨_, cs, _, e1, _⟩
    · exact .inr ⟨g, cap, cur, hv, hb, e1.trans hh, hc, hm, hsz, ht⟩
    · rw [hh] at e1
      injection e1 with e1
      injection e1 with _ e1 _
      exact absurd e1 he
theorem bytes_of : ∀ xs : List Value, (∀ u ∈ xs, ∃ b, u = byteV b) → ∃ l : Bs, xs = l.map byteV
  | [], _ => ⟨[], rfl⟩
  | x :: xs, h => by
    obtain ⟨b, rfl⟩ := h x (by simp)
    obtain ⟨l, rfl⟩ := bytes_of xs (fun u hu => h u (by simp [hu]))
    exact ⟨b :: l, rfl⟩
theorem OwnR.turn {B base : Nat} {w w' : World} {v : Value} {l : Bs} (ho : OwnR w base v l) (h : TurnS B w w') : ∃ l', l'.length = l.length ∧ OwnR w' base v l' := by
  unfold OwnR at ho
  rcases ho.2 with ⟨h1, h2⟩ | ⟨g, cap, cur, hv, hb, hh, hc, hm, hsz, ht⟩
  · refine ⟨l, rfl, ?_⟩
    unfold OwnR
    exact ⟨ho.1, .inl ⟨h1, h2⟩⟩
  · have hg := (Array.getElem?_eq_some_iff.1 hh).1
    rcases h.block g hg with e1 | ⟨_, cs, cs', e1, e2, e3, e4⟩
    · refine ⟨l, rfl, ?_⟩
      unfold OwnR
      exact ⟨ho.1, .inr ⟨g, cap, cur, hv, hb, e1.trans hh, hc, hm, hsz, ht⟩⟩
    · rw [hh] at e1
      injection e1 with e1
      injection e1 with e1 _ _
      subst e1
      have hall : ∀ u ∈ cs'.toList.take (l.length * 1), ∃ b, u = byteV b := fun u hu => by
        obtain ⟨j, hj, rfl⟩ := List.mem_iff_getElem.1 hu
        have hj1 : j < l.length := by rw [List.length_take] at hj; omega
        have e := congrArg (fun x => x[j]?) ht
        rw [List.getElem?_take_of_lt (by omega), List.getElem?_map, List.getElem?_eq_getElem hj1, Option.map_some, Array.getElem?_toList] at e
        obtain ⟨b', hb'⟩ := e4 j _ e
        refine ⟨b', ?_⟩
        rw [List.getElem_take]
        have : cs'.toList[j]? = some (byteV b') := by rw [Array.getElem?_toList]; exact hb'
        exact (List.getElem?_eq_some_iff.1 this).2
      obtain ⟨l', hl'⟩ := bytes_of _ hall
      have hlen : l'.length = l.length := by
        have hz := congrArg List.length hl'
        have h4 : cs'.toList.length = cap * 1 := e3.trans hsz
        rw [List.length_take, List.length_map, h4] at hz
        omega
      refine ⟨l', hlen, ?_⟩
      unfold OwnR
      exact ⟨by simp, .inr ⟨g, cap, cs', by rw [hlen]; exact hv, hb, e2, by rw [hlen]; exact hc, hm, e3.trans hsz, by rw [hlen]; exact hl'⟩⟩
theorem TurnS.set {B g n c : Nat} {w : World} {l : Bs} (ho : OwnR w B (.slice (some ⟨g, 0, none⟩) n c) l) (j : Nat) (x : UInt8) : TurnS B w (w.setCell ⟨g, j, none⟩ (.int .u8 x.toNat)) := by
  rcases ho.2 with ⟨h1, h2⟩ | ⟨g', cap, cur, hv, hb, hh, hc, hmx, hsz, ht⟩
  · cases h1
  · injection hv with e1 e2 e3
    injection e1 with e1
    injection e1 with e1
    subst e1
    have gs : w.grownBy (w.setCell ⟨g, j, none⟩ (.int .u8 x.toNat)) (some g) := by
      have := grownBy_setCells g [.int .u8 x.toNat] j w
      simpa [World.setCells] using this
    refine ⟨gs.os, gs.tape, gs.output, gs.size, fun k hk => ?_⟩
    by_cases hkg : k = g
    · subst hkg
      refine .inr ⟨hb, cur, _, hh, row_set _ hh, by simp, fun i b hi => ?_⟩
      by_cases hij : j = i
      · subst hij
        have hlt := (Array.getElem?_eq_some_iff.1 hi).1
        exact ⟨x, by rw [Array.getElem?_setIfInBounds_self_of_lt hlt]; rfl⟩
      · exact ⟨b, by rw [Array.getElem?_setIfInBounds_ne hij]; exact hi⟩
    · exact .inl (gs.block k hk (fun e => hkg (by injection e)))

set_option maxHeartbeats 1000000 in
set_option maxRecDepth 100000 in
/-- Spoil of some data: bytes of the call's own turn, no more. -/
theorem spoilL_any (B : Nat) (A : Option Addr) (n c : Nat) (us : List Value) (w : World) (hn : n = us.length) (hm : n ≤ 9223372036854775807)
    (hr : 0 < n → ∃ q o cs, A = some ⟨q, o, none⟩ ∧ w.heap[q]? = some (.cells cs 37 (0, 0)) ∧ ∀ j u, us[j]? = some u → w.cell? ⟨q, o + j, none⟩ = some u) (hu : ∀ u ∈ us, ∃ l, OwnR w B u l) :
    Calls Try.prog 13 #[.slice A n c] w fun e w' => e = .returned (.tuple #[]) ∧ TurnS B w w' := by
  have HN := Lib.hid hn
  have HR := Lib.hid hr
  have HU := Lib.hid hu
  clear hn hr hu
  go_enter Try.func13, Try.ntmps13
  go_wp2_with fail
  go_loopw [7] (fun v7 wr => ∃ j : Nat, v7 = .int .i64 j ∧ j ≤ n ∧ TurnS B w wr) (fun v7 _ => n - (intOf v7).toNat)
  case atStart => exact ⟨0, rfl, by omega, TurnS.refl _ _⟩
  case round =>
    obtain ⟨j, rfl, hj, hT⟩ := hrel
    rename World => wr
    by_cases hlt : j < n
    · have hlt' : (j : Int) < (n : Int) := by omega
      obtain ⟨q, o, cs, hA, hq, hc⟩ := HR.out (by omega)
      subst hA
      have ju : j < us.length := by have := HN.out; omega
      have hcj := hc j us[j] (List.getElem?_eq_getElem ju)
      have hqr : wr.heap[q]? = w.heap[q]? := by
        rcases hT.block q (Array.getElem?_eq_some_iff.1 hq).1 with e | ⟨_, ds, _, e, _⟩
        · exact e
        · rw [hq] at e
          injection e with e
          injection e with _ e _
          exact absurd e (by decide)
      have cj : wr.cell? ⟨q, o + j, none⟩ = some us[j] := (World.cell?_of_block (a := ⟨q, o + j, none⟩) hqr).trans hcj
      obtain ⟨l0, hl0⟩ := HU.out us[j] (List.getElem_mem ju)
      obtain ⟨l, -, ho⟩ := hl0.turn hT
      generalize us[j] = u at *
      have HT := Lib.hid hT
      clear hc hcj hq hqr hl0 hT HR
      rcases ho.form with ⟨rfl, rfl⟩ | ⟨g, d, rfl, hbg, hgl, hd, hdm⟩
      · clear ho
        go_wp2_with fail
        refine wp_loop_rounds 1 ?_
        rw [rounds_succ]
        go_wp2_with fail
        go_roundw
        case rel => exact ⟨j + 1, by go_num, by omega, HT.out⟩
        case measure => simp [intOf]; omega
      · obtain ⟨m, hmm⟩ : ∃ m, m = l.length := ⟨_, rfl⟩
        rw [← hmm] at cj ho hd
        have hm63 : m ≤ 9223372036854775807 := by unfold maxLen at hdm; omega
        have H := Lib.hid ho
        have HMM := Lib.hid hmm
        clear ho hmm hdm
        go_wp2_with fail
        go_loopw [13] (fun i ws => ∃ (k : Nat) (y : Bs), i = .int .i64 k ∧ k ≤ m ∧ y.length = m ∧ OwnR ws B (.slice (some ⟨g, 0, none⟩) m d) y ∧ TurnS B w ws) (fun i _ => m - (intOf i).toNat)
        case atStart => exact ⟨0, l, rfl, by omega, HMM.out.symm, H.out, HT.out⟩
        case round =>
          obtain ⟨k, y, rfl, hk, hy, ho, hg⟩ := hrel
          rename World => ws
          by_cases hlt2 : k < m
          · have hlt2' : (k : Int) < (m : Int) := by omega
            obtain ⟨hc1, hf1⟩ := ho.cellAt (j := k) (by omega)
            have hx := xor_255 (y[k]'(by omega))
            have O2 := Lib.hid (ho.set k ((y[k]'(by omega)) ^^^ 255))
            have L2 : Hid ((y.set k ((y[k]'(by omega)) ^^^ 255)).length = m) := Lib.hid (by rw [List.length_set, hy])
            have G2 := Lib.hid (hg.trans (TurnS.set ho k ((y[k]'(by omega)) ^^^ 255)))
            generalize ((y[k]'(by omega)) ^^^ 255) = z at *
            generalize (y[k]'(by omega)).toNat = uu at *
            generalize hzz : z.toNat = zz at *
            generalize y.set k z = y2 at *
            clear hg ho hy H hzz
            go_wp2_with fail
            go_roundw
            case rel => exact ⟨k + 1, y2, by go_num, by omega, L2.out, O2.out, G2.out⟩
            case measure => simp [intOf]; omega
          · have hlt2' : ¬ (k : Int) < (m : Int) := by omega
            have HG := Lib.hid hg
            clear ho hg
            go_wp2_with fail
            go_roundw
            case rel => exact ⟨j + 1, by go_num, by omega, HG.out⟩
            case measure => simp [intOf]; omega
    · have hlt' : ¬ (j : Int) < (n : Int) := by omega
      have HT := Lib.hid hT
      clear hT
      go_wp2_with fail
      go_end0
      exact ⟨rfl, HT.out⟩
end Go.Proofs.Ytbeggckkgaoacaa
