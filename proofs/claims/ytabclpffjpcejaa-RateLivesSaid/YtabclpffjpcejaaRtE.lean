/-
  Best: of those that are alike the drawn one.
-/
import Derived.Test.YtabclpffjpcejaaRtD
import Derived.StillTailTactics
namespace Go.Proofs.Ytabclpffjpcejaa
open Go.RowKit Go.Maps
set_option linter.unusedVariables false
set_option maxRecDepth 100000

def alikeT (T : Int → Nat × Nat) (m : Nat × Nat) (xs : List Int) : List Int := xs.filter (fun a => decide (T a = m))
def drawU (d : Int) : Nat := (d % 18446744073709551616).toNat
def bestV (T : Int → Nat × Nat) (xs : List Int) : Nat × Nat := T (bestOf T (xs.headD 0) xs.tail)
def pickT (T : Int → Nat × Nat) (xs : List Int) (d : Int) : Int := (alikeT T (bestV T xs) xs).getD (drawU d % (alikeT T (bestV T xs) xs).length) 0
theorem bestOf_mem (T : Int → Nat × Nat) (r : List Int) : ∀ m, bestOf T m r ∈ m :: r := by
  induction r with
  | nil => intro m; simp [bestOf]
  | cons a r ih =>
    intro m
    unfold bestOf
    have := ih (if lessT (T a) (T m) then a else m)
    rw [List.mem_cons] at this ⊢
    rcases this with h | h
    · rw [h]
      split
      · exact .inr (List.mem_cons_self)
      · exact .inl rfl
    · exact .inr (List.mem_cons_of_mem _ h)
theorem best_mem {T : Int → Nat × Nat} {xs : List Int} (h : xs ≠ []) : bestOf T (xs.headD 0) xs.tail ∈ xs := by
  cases xs with
  | nil => exact absurd rfl h
  | cons a r => exact bestOf_mem T r a
theorem alike_ne {T : Int → Nat × Nat} {xs : List Int} (h : xs ≠ []) : 0 < (alikeT T (bestV T xs) xs).length :=
  List.length_pos_of_mem (List.mem_filter.2 ⟨best_mem (T := T) h, decide_eq_true rfl⟩)
theorem alike_le (T : Int → Nat × Nat) (m : Nat × Nat) (xs : List Int) : (alikeT T m xs).length ≤ xs.length := List.length_filter_le _ _
theorem alike_snoc {T : Int → Nat × Nat} {m : Nat × Nat} {xs : List Int} {k : Nat} (hk : k < xs.length) : alikeT T m (xs.take (k + 1)) = if T xs[k] = m then alikeT T m (xs.take k) ++ [xs[k]] else alikeT T m (xs.take k) := by
  unfold alikeT
  rw [List.take_succ_eq_append_getElem hk, List.filter_append]
  split
  · rename_i h; simp [h]
  · rename_i h; simp [h]
structure SB (p m N : Nat) (T : Int → Nat × Nat) (A : Option Addr) (xs : List Int) (w : World) : Prop where
  tab : Tab p m N T w
  nts : Nts w A xs
theorem Best_no {p m N : Nat} {T : Int → Nat × Nat} (w : World) (h : Tab p m N T w) (A : Option Addr) (c : Nat) (d : Int) :
    Calls Try.prog 34 #[.pointer (some ⟨p, 0, none⟩), .slice A 0 c, .int .i64 d] w fun e w' => e = .returned (.tuple #[.int .i64 0, .bool false]) ∧ w = w' := by
  have C := Lib.hid (madeT_any w h)
  clear h
  go_enter Try.func34, Try.ntmps34
  go_wp2_with fail
  refine C.out.mono ?_
  rintro e w1 ⟨rfl, rfl⟩
  go_wp2_with fail
  go_ret2
  exact ⟨rfl, rfl⟩
set_option maxHeartbeats 4000000 in
theorem Best_yes {p m N : Nat} {T : Int → Nat × Nat} (w : World) (h : Tab p m N T w) (A : Option Addr) (xs : List Int) (n c : Nat) (d : Int) (hn : n = xs.length) (hx : Nts w A xs) (hI : ∀ a ∈ xs, I64 a) (h0 : 0 < n) (hm : n ≤ 17592186044416) :
    Calls Try.prog 34 #[.pointer (some ⟨p, 0, none⟩), .slice A n c, .int .i64 d] w fun e w' => e = .returned (.tuple #[.int .i64 (pickT T xs d), .bool true]) ∧ Below w.heap.size w w' := by
  have hne : xs ≠ [] := by intro e; subst e; simp at hn; omega
  have c0 := h.cell
  have C := Lib.hid (madeT_any w h)
  have MF := Lib.hid (fun W (hS : SB p m N T A xs W) => MinFunc_any W hS.tab A xs n c hn hS.nts hI h0 hm)
  have hS0 : SB p m N T A xs w.drew := ⟨h.below (Below.drew (Below.refl _ _)), hx.on (Below.drew (Below.refl _ _))⟩
  have SBb : Hid (∀ w1 w2, SB p m N T A xs w1 → Below w1.heap.size w1 w2 → SB p m N T A xs w2) := Lib.hid (fun w1 w2 hS hB => ⟨hS.tab.below hB, hS.nts.on hB⟩)
  have hcl : ∀ W, SB p m N T A xs W → W.cell? ⟨p, 0, none⟩ = some (.map (some m)) := fun W hS => hS.tab.cell
  have hlk : ∀ W, SB p m N T A xs W → (Instr.lookup 75 (.map (some m)) (.int .i64 (bestOf T (xs.headD 0) xs.tail)) false).run Try.prog W = .ok (cV (bestV T xs)) W := fun W hS => hS.tab.look _ (hI _ (best_mem hne))
  have HI := Lib.hid hI
  have HN := Lib.hid hn
  have HNE := Lib.hid hne
  have HX := Lib.hid (fun W (hS : SB p m N T A xs W) => hS.nts)
  have HTB := Lib.hid (fun W (hS : SB p m N T A xs W) => hS.tab)
  have HPK : Hid (pickT T xs d = (alikeT T (bestV T xs) xs).getD (drawU d % (alikeT T (bestV T xs) xs).length) 0) := Lib.hid rfl
  have HAN := Lib.hid (alike_ne (T := T) hne)
  have HOK : Hid ((bestV T xs).1 ≤ 8000 ∧ (bestV T xs).2 ≤ 1000) := Lib.hid (h.ok _)
  obtain ⟨pk, hpk⟩ : ∃ z, z = pickT T xs d := ⟨_, rfl⟩
  rw [← hpk] at HPK ⊢
  obtain ⟨b, hb⟩ : ∃ z, z = bestOf T (xs.headD 0) xs.tail := ⟨_, rfl⟩
  obtain ⟨mv, hmv⟩ : ∃ z, z = bestV T xs := ⟨_, rfl⟩
  rw [← hmv] at HPK HAN HOK
  simp only [← hmv, ← hb] at hlk
  rw [← hb] at MF
  clear h hx hI hn hne hpk hb hmv
  unfold cV at hlk
  have HF1 : Hid (Fl mv.1 = Fl mv.1) := Lib.hid rfl
  obtain ⟨G1, hG1⟩ : ∃ z, z = Fl mv.1 := ⟨_, rfl⟩
  obtain ⟨G2, hG2⟩ : ∃ z, z = Fl mv.2 := ⟨_, rfl⟩
  simp only [← hG1, ← hG2] at hlk
  have HG1 := Lib.hid hG1
  have HG2 := Lib.hid hG2
  clear hG1 hG2 HF1
  go_enter Try.func34, Try.ntmps34
  go_wp2_with fail
  refine C.out.mono ?_
  rintro e w1 ⟨rfl, rfl⟩
  go_wp2_with fail
  go_region_held3 (fun w' => SB p m N T A xs w')
    (first | assumption | exact SBb.out _ _ (by assumption) (by assumption))
    (first
      | (go_at_call 46; (with_reducible refine (MF.out _ (by assumption)).mono ?_); rintro e w' ⟨rfl, hBx⟩))
  replace hBx : Below w.heap.size w w' := ⟨hBx.os, hBx.tape, hBx.output, hBx.size, hBx.block⟩
  have hS1 : SB p m N T A xs w' := SBb.out _ _ hS0 ⟨hBx.os, hBx.tape, hBx.output, hBx.size, hBx.block⟩
  have HB0 := Lib.hid hBx
  have HS1 := Lib.hid hS1
  clear hBx hS1 hS0 hcl hlk c0 C MF
  rename_i hS9
  clear hS9
  go_wp2_with fail
  go_loopw [9, 31] (fun u v wr => ∃ k : Nat, v = .int .i64 k ∧ k ≤ n ∧ OwnI wr w'.heap.size u (alikeT T mv (xs.take k)) ∧ Below w'.heap.size w' wr) (fun _ v _ => n - (intOf v).toNat)
  case atStart => exact ⟨0, rfl, by omega, OwnI.nil _ _, Below.refl _ _⟩
  case round =>
    obtain ⟨k, rfl, hk, hO, hB⟩ := hrel
    rename_i wr
    by_cases hlt : k < n
    · have hlt' : (k : Int) < (n : Int) := by omega
      have hkl : k < xs.length := by have := HN.out; omega
      have hS2 := SBb.out _ _ HS1.out hB
      obtain ⟨g, off, rfl, hc⟩ := HX.out _ hS2 (by omega)
      have ck := hc k hkl
      have ik : I64 xs[k] := HI.out _ (List.getElem_mem _)
      have hsn := alike_snoc (T := T) (m := mv) hkl
      have c0 := (HTB.out _ hS2).cell
      have ok1 := (HTB.out _ hS2).ok xs[k]
      have hl := (HTB.out _ hS2).look xs[k] ik
      have hal := alike_le T mv (xs.take k)
      rw [List.length_take] at hal
      unfold cV at hl
      generalize xs[k] = x at *
      have o1 := Fl_order (a := (T x).1) (b := mv.1) (by omega) (by have := HOK.out.1; omega)
      have o2 := Fl_order (a := (T x).2) (b := mv.2) (by omega) (by have := HOK.out.2; omega)
      rw [← HG1.out] at o1
      rw [← HG2.out] at o2
      by_cases hT : T x = mv
      · rw [if_pos hT] at hsn
        have e1 : (FloatKind.f64.format.order (Fl (T x).1) G1 == some .eq) = true := by rw [o1, hT, Nat.compare_eq_eq.2 rfl]; rfl
        have e2 : (FloatKind.f64.format.order (Fl (T x).2) G2 == some .eq) = true := by rw [o2, hT, Nat.compare_eq_eq.2 rfl]; rfl
        have HSN := Lib.hid hsn
        have HBW := Lib.hid hB
        have hs1 := hB.size
        have hlen : ((alikeT T mv (xs.take k)).length + 1) * 8 ≤ 140737488355328 := by omega
        have HO := Lib.hid hO
        generalize Fl (T x).1 = F1 at *
        generalize Fl (T x).2 = F2 at *
        clear o1 o2 hsn hT ok1 hal hc hS2 hB hO
        go_wp2_with (at_builtin; refine wpList_app_int rfl _ _ rfl w'.heap.size _ (alikeT T mv (xs.take k)) rfl (HO.out.alloc _) wr.heap.size 1 x rfl ?c1 hlen ?c2 ?_)
        case c1 => exact (cell_of_row _ _ 0 _ _ _ (row_new _ rfl)).trans rfl
        case c2 => simp; omega
        intro v' w2 hown2 hgrow hfr
        have hB2 : Below w'.heap.size w' w2 := Below.grown (Below.alloc HBW.out hs1 _) hgrow (by simp; omega) (fun g e => (HO.out.lt g e).1)
        rw [← HSN.out] at hown2
        clear hgrow hfr HO HBW hlen
        go_wp2_with fail
        go_roundw
        case rel => exact ⟨k + 1, by go_num, by omega, hown2, hB2⟩
        case measure => simp [intOf]; omega
      · rw [if_neg hT] at hsn
        have HSN := Lib.hid hsn
        have HBW := Lib.hid hB
        have HO := Lib.hid hO
        have e3 : ((FloatKind.f64.format.order (Fl (T x).1) G1 == some .eq) && (FloatKind.f64.format.order (Fl (T x).2) G2 == some .eq)) = false := by
          rw [o1, o2]
          by_cases q1 : (T x).1 = mv.1
          · have q2 : (T x).2 ≠ mv.2 := fun e => hT (Prod.ext q1 e)
            have : compare (T x).2 mv.2 ≠ .eq := fun e => q2 (Nat.compare_eq_eq.1 e)
            simp [this]
          · have : compare (T x).1 mv.1 ≠ .eq := fun e => q1 (Nat.compare_eq_eq.1 e)
            simp [this]
        generalize Fl (T x).1 = F1 at *
        generalize Fl (T x).2 = F2 at *
        have HE : (binOp .eql 66 (.complex .f64 F1 F2) (.complex .f64 G1 G2)).run Try.prog wr = .ok (.bool false) wr := by rw [run_eql_complex, e3]
        clear o1 o2 hsn hT ok1 hal hc hS2 hB hO e3
        go_wp2_with fail
        rw [← HSN.out] at HO
        go_roundw
        case rel => exact ⟨k + 1, by go_num, by omega, HO.out, HBW.out⟩
        case measure => simp [intOf]; omega
    · obtain rfl : k = n := by omega
      have h1 : xs.take k = xs := List.take_of_length_le (by have := HN.out; omega)
      rw [h1] at hO
      have hal := alike_le T mv xs
      have hpos := HAN.out
      obtain ⟨A1, c1, rfl, hnt, hc1, hc2⟩ := hO.nts
      obtain ⟨g, off, rfl, hcell⟩ := hnt hpos
      obtain ⟨L, hL⟩ : ∃ L, L = (alikeT T mv xs).length := ⟨_, rfl⟩
      have hq : drawU d % L < L := Nat.mod_lt _ (by omega)
      have cq := hcell (drawU d % L) (by omega)
      have hpk := HPK.out
      rw [← hL] at hpk
      rw [List.getD_eq_getElem?_getD, List.getElem?_eq_getElem (by omega), Option.getD_some] at hpk
      rw [← hpk] at cq
      rw [← hL]
      have hwr : IntKind.u64.wrap d = (drawU d : Int) := by
        unfold drawU
        have : IntKind.u64.wrap d = d % 18446744073709551616 := rfl
        rw [this]; omega
      have hdu : drawU d < 18446744073709551616 := by unfold drawU; omega
      have hrem : (drawU d : Int) % (L : Int) = ((drawU d % L : Nat) : Int) := rfl
      have HN2 := Lib.hid HN.out
      have hL2 : L ≤ 17592186044416 := by have := HN.out; omega
      have hL3 : 0 < L := by omega
      have HBW : Hid (Below w.heap.size w wr) := Lib.hid (Below.trans HB0.out (hB.mono HB0.out.size))
      clear hpk hL hal hpos hnt hcell hO hB h1
      generalize drawU d = du at *
      generalize hqq : du % L = q at *
      go_wp2_with fail
      go_ret2
      exact ⟨rfl, HBW.out⟩
end Go.Proofs.Ytabclpffjpcejaa
