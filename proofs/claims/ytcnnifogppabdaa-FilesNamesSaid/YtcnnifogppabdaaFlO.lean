/-
  The landed disk's Crash: the walk.
-/
import Derived.Test.YtcnnifogppabdaaFlN
namespace Go.Proofs.Ytcnnifogppabdaa
open Go.RowKit Go.Maps
set_option linter.unusedVariables false
set_option maxRecDepth 100000

theorem mem_leftS {L : List Tl} {left : Lit → Bool} {S : List Fil} {f : Fil} (hf : f ∈ S) (hl : left (.string f.n) = true) : f ∈ leftS L left S := List.mem_map.2 ⟨f, hf, by simp [hl]⟩
/-- A crash, round by round. -/
structure CrR (y : Ly) (D : Dk) (L : List Tl) (mt r : Nat) (M : DataW Unit) (w : World) (left : Lit → Bool) (cnt : Nat) (V : Bs → Value) (wr : World) : Prop where
  rg : wr.ranges Try.prog 9 ptrE y.m r y.N M left cnt
  dk : DiskU { y with v := V } { D with S := leftS L left D.S } (leftU L left D.S : Nat) wr
  vs : ∀ f ∈ D.S, ∀ k, (V f.n).ownBlock = some k → (y.v f.n).ownBlock = some k
  on : Only (Foot y D.S) w wr
  tm : TMap wr mt L.length L
theorem CrR.drew {y : Ly} {D : Dk} {L : List Tl} {mt r : Nat} {M : DataW Unit} {w : World} {left : Lit → Bool} {cnt : Nat} {V : Bs → Value} {wr : World} (h : CrR y D L mt r M w left cnt V wr) : CrR y D L mt r M w left cnt V wr.drew := ⟨h.rg, h.dk.drew, h.vs, h.on.drew, h.tm.block rfl⟩
theorem CrR.foot {y : Ly} {D : Dk} {L : List Tl} {mt r : Nat} {M : DataW Unit} {w : World} {left : Lit → Bool} {cnt : Nat} {V : Bs → Value} {wr : World} (h : CrR y D L mt r M w left cnt V wr) : ∀ k, Foot { y with v := V } (leftS L left D.S) k → Foot y D.S k := by
  intro k hk
  rcases hk with e | e | ⟨f, hf, e⟩
  · exact .inl e
  · exact .inr (.inl e)
  · obtain ⟨g, hg, rfl⟩ := List.mem_map.1 hf
    have hn : (if left (.string g.n) then g else crashOf L g).n = g.n := by split <;> rfl
    rw [hn] at e
    rcases e with e | e
    · exact .inr (.inr ⟨g, hg, .inl e⟩)
    · exact .inr (.inr ⟨g, hg, .inr (h.vs g hg k e)⟩)

set_option maxHeartbeats 4000000 in
theorem Crash_any {y : Ly} {D : Dk} (A : Option Addr) (L : List Tl) (c : Nat) (w : World) (h : DiskU y D (used D.S) w) (hok : D.Ok) (hS : Tls w A L) (hl : L.length ≤ 1000000000) (hn : ∀ x ∈ L, x.n.length ≤ maxLen) :
    Calls Try.prog 18 #[.pointer (some ⟨y.p, 0, none⟩), .slice A L.length c] w fun e w' => e = .returned (.int .i64 0) ∧ After y D.S ⟨crashS L D.S, D.room, -1, -1⟩ w w' := by
  have C1 := Lib.hid (made_any w h)
  have C2 := Lib.hid (firstTails_any A L c w hS hl hn)
  have HOK := Lib.hid hok
  have HD := Lib.hid h
  clear h hok hS hl hn
  go_enter Try.func18, Try.ntmps18
  go_wp2_with fail
  with_reducible refine Calls.mono C1.out ?_
  rintro e w1 ⟨rfl, rfl⟩
  go_wp2_with fail
  with_reducible refine Calls.mono C2.out ?_
  rintro e w1 ⟨rfl, hT1, hB1⟩
  have hD1 := HD.out.below hB1
  have d1 := hD1.cells.2.1
  have d0 := hD1.cells.1
  have z1 := hD1.thaw 1
  have hD2 := onUsed hD1 0
  obtain ⟨M, hM, hM1, hM2⟩ := hD2.map
  have hT2 : TMap (w1.setCell ⟨y.p, 1, none⟩ (.int .i64 0)) w.heap.size L.length L := hT1.block (Below.heap_setCell _ _ _ _ (by have := HD.out.lt foot_p; simp; omega))
  have hO2 : Only (Foot y D.S) w (w1.setCell ⟨y.p, 1, none⟩ (.int .i64 0)) := (Only.of_below hB1).setCell (.inl foot_p) _
  have HD2 := Lib.hid hD2
  have HM1 := Lib.hid hM1
  have HM2 := Lib.hid hM2
  have HT2 := Lib.hid hT2
  have HO2 := Lib.hid hO2
  have hs2 := hB1.size
  clear C1 C2 hT1 hB1 hD2 hM1 hM2 hT2 hO2 hD1
  go_wp2_with (at_range; refine wpList_range_own _ rfl _ 63 rfl 9 74 strKey Try.underlying63 ptrE y.m y.N M rfl hM ?_)
  intro w0 hrg0 hg0 hs0
  clear d1 d0 z1
  have hR0 : CrR y D L w.heap.size w1.heap.size M w (Maps.has M) (Maps.size M) y.v w0 := by
    obtain ⟨e1, e2⟩ := leftS_start (L := L) (left := Maps.has M) (S := D.S) fun f hf => by rw [HM2.out, find_mem HD2.out.uq hf]; rfl
    refine ⟨hrg0, ?_, fun f hf k e => e, HO2.out.grown hg0 (fun k e => by cases e), HT2.out.block (hg0.block _ HT2.out.lt (by simp))⟩
    rw [e1, e2]
    exact HD2.out.kept fun k hk => hg0.block k (HD2.out.lt hk) (by simp)
  have HR0 := Lib.hid hR0
  have hrp : Hid (∀ k, Foot y D.S k → k < w1.heap.size) := Lib.hid fun k hk => by have := HD.out.lt hk; omega
  have hrm : Hid (w.heap.size < w1.heap.size) := Lib.hid (by have := HT2.out.lt; simp at this; exact this)
  clear hR0 hrg0 hg0 hs0 hM HO2 HT2 HD2
  generalize w1.heap.size = r at *
  go_wp2_with fail
  go_loopw [6] (fun _ wr => ∃ left cnt V, Hid (CrR y D L w.heap.size r M w left cnt V wr)) (fun _ wr => wr.rangeLeft y.m r)
  case atStart => exact ⟨_, _, _, HR0⟩
  case round =>
    obtain ⟨left, cnt, V, hR⟩ := hrel
    have hrg := hR.out.rg
    go_wp2_with (at_next; refine wpList_next_ranges _ rfl _ rfl 9 strKey ptrE (fun x : Bs => .string (bs x)) mkP inv_key inv_val y.m r y.N M left cnt rfl hrg ?_ ?_)
    · intro hc0 hl0
      obtain ⟨e1, e2⟩ := leftS_done (L := L) (S := D.S) hl0
      have hdk := hR.out.dk
      rw [e1, e2] at hdk
      have hft := hR.out.foot
      rw [e1] at hft
      have z3 := hdk.thaw 3
      have z4 := hdk.thaw 4
      have d3 := hdk.cells.2.2.2.1
      have d4 := hdk.cells.2.2.2.2
      have hD5 := onFuse (onShort hdk (-1)) (-1)
      have HD5 := Lib.hid hD5
      have HFT := Lib.hid hft
      have HON : Hid (Only (Foot y D.S) w ((wr.setCell ⟨y.p, 3, none⟩ (.int .i64 (-1))).setCell ⟨y.p, 4, none⟩ (.int .i64 (-1)))) := Lib.hid ((hR.out.on.setCell (.inl foot_p) _).setCell (.inl foot_p) _)
      clear hD5 hdk hft hR hrg e1 e2 hc0 hl0 HR0
      dsimp only at z3 z4 d3 d4
      go_wp2_with fail
      go_ret
      exact ⟨rfl, { y with v := V }, rfl, HD5.out, HON.out, fun k hk => .inl (HFT.out k hk), Nat.le_succ _⟩
    · intro x c kl yv yp w' cnt' hkey hlk hv hat hrg1 hlt hgr hsz hen
      obtain ⟨hxl, rfl⟩ := key_len hkey
      have hhas := has_true_of_atKey hat
      rw [HM2.out] at hhas
      obtain ⟨f, hfd⟩ := Option.isSome_iff_exists.1 hhas
      obtain ⟨hfS, hfn⟩ := find_some hfd
      subst hfn
      have hy : yv = .lit (.int .i64 (y.fb f.n)) := by rw [← hat .nil, HM1.out]; unfold keyD; rw [hfd]
      have hcp : c = some (y.fb f.n) := by
        rcases ptrE_inv hv with ⟨e1, e2⟩ | ⟨b, e1, e2⟩
        · rw [hy] at e2; cases e2
        · rw [hy] at e2
          have : y.fb f.n = b := by simp at e2; omega
          subst this
          cases c with
          | none => cases e1
          | some b => simp only [mkP] at e1; injection e1 with e1; injection e1 with e1; injection e1 with e1; rw [e1]
      subst hcp
      simp only [mkP] at hen ⊢
      have hlk : left (.string f.n) = true := hlk
      -- the world behind the step
      have hdk : DiskU { y with v := V } { D with S := leftS L left D.S } (leftU L left D.S : Nat) w' := hR.out.dk.kept fun k hk => hgr.block k (hR.out.dk.lt hk) (fun e => by injection e with e; have := hrp.out k (hR.out.foot k hk); omega)
      have htm : TMap w' w.heap.size L.length L := hR.out.tm.block (hgr.block _ hR.out.tm.lt (fun e => by injection e with e; have := hrm.out; omega))
      have hon : Only (Foot y D.S) w w' := hR.out.on.grown hgr fun k e => by injection e with e; exact .inr (by omega)
      have hfL := mem_leftS (L := L) hfS hlk
      have hFA : FAt (y.fb f.n) (V f.n) f.d f.s w' := ⟨(hdk.file f hfL).1, (hdk.file f hfL).2⟩
      have look := htm.look f.n hxl
      obtain ⟨hfd1, hfd2⟩ := HOK.out.len f hfS
      have C := Lib.hid (crash_any (y.fb f.n) (V f.n) f (firstT L f.n) w' hFA hfd2 hfd1)
      have HLK := Lib.hid hlk
      have HDK := Lib.hid hdk
      have HTM := Lib.hid htm
      have HON := Lib.hid hon
      have HFS := Lib.hid hfS
      have HFL := Lib.hid hfL
      have HRG1 := Lib.hid hrg1
      have HVS := Lib.hid hR.out.vs
      have hul := Lib.hid (leftU_le (L := L) (left := left) fun g hg => (HOK.out.len g hg).2)
      have hcl := Lib.hid (crashF_le (firstT L f.n) hfd2)
      have HF1 := Lib.hid hfd1
      have HFT := Lib.hid hR.out.foot
      have HLT := Lib.hid hlt
      have HRG := Lib.hid hrg
      have HY : Hid (y.m ≠ y.fb f.n ∧ y.p ≠ y.fb f.n) := Lib.hid ⟨hdk.mf hfL, hdk.pf hfL⟩
      clear hkey hxl hhas hfd hy hv hat hlk hdk htm hon hfL hFA hfd1 hfd2 hgr hrg1 hR hrg hlt hsz hfS
      go_wp2_with fail
      with_reducible refine Calls.mono C.out ?_
      rintro e w3 ⟨rfl, v', hFA, hvb, ho3⟩
      obtain ⟨va, vc, hv', hvl, hvm, _⟩ := row_slice hFA.row
      have hvm2 : vc ≤ 9223372036854775807 := by unfold maxLen at hvm; omega
      have hDk := HDK.out
      obtain ⟨hD4, hF4⟩ := hDk.onFile HFL.out (w' := w3) (v' := v') (d' := (crashF f (firstT L f.n)).d) (s' := (crashF f (firstT L f.n)).s)
        (fun k hk h1 h2 => ho3.block k (hDk.lt hk) (fun e => by rcases e with e | e; exact h1 e; exact h2 e))
        hFA.file hFA.row (fun k e => .inl (hvb k e))
      have hnext := leftS_next (L := L) HD.out.uq HFS.out HLK.out
      have hunext := leftU_next (L := L) HD.out.uq HFS.out HLK.out
      have hD4 : DiskU { y with v := fun n => if n = f.n then v' else V n } { D with S := leftS L (fun z => left z && !z.sameKey (.string f.n)) D.S } (leftU L left D.S : Nat) w3 := by rw [hnext]; exact hD4
      have hb3 : ∀ k, k ≠ y.fb f.n → (V f.n).ownBlock ≠ some k → k < w'.heap.size → w3.heap[k]? = w'.heap[k]? := fun k h1 h2 h3 => ho3.block k h3 (fun e => by rcases e with e | e; exact h1 e; exact h2 e)
      have hrb : ∀ k, (V f.n).ownBlock = some k → k < r := fun k e => hrp.out k (HFT.out k (foot_v HFL.out e))
      have hrg3 : w3.ranges Try.prog 9 ptrE y.m r y.N M (fun z => left z && !z.sameKey (.string f.n)) cnt' := ranges_block HRG1.out
        (hb3 _ HY.out.1 (hDk.mv HFL.out) (hDk.lt foot_m))
        (hb3 _ (fun e => by have h9 : y.fb f.n < r := hrp.out _ (HFT.out _ (foot_f (y := { y with v := V }) HFL.out)); omega) (fun e => by have := hrb _ e; omega) HRG1.out.lt)
      have htm3 : TMap w3 w.heap.size L.length L := HTM.out.block (hb3 _ (fun e => by have := HD.out.lt (foot_f HFS.out); omega) (fun e => by have := HD.out.lt (foot_v HFS.out (HVS.out f HFS.out _ e)); omega) HTM.out.lt)
      have hon3 : Only (Foot y D.S) w w3 := HON.out.trans ho3 fun i e => by
        rcases e with e | e
        · subst e; exact .inl (foot_f HFS.out)
        · exact .inl (foot_v HFS.out (HVS.out f HFS.out _ e))
      have f0 : w3.cell? ⟨y.fb f.n, 0, none⟩ = some v' := cell_of_row _ _ _ _ _ _ hFA.file
      rw [hv'] at f0
      have d1 := hD4.cells.2.1
      have z1 := hD4.thaw 1
      dsimp only at d1 z1
      obtain ⟨u, hu⟩ : ∃ u, u = leftU L left D.S := ⟨_, rfl⟩
      obtain ⟨q, hq⟩ : ∃ q, q = (crashF f (firstT L f.n)).d.length := ⟨_, rfl⟩
      rw [← hu] at d1
      rw [← hq] at f0
      have b1 : u ≤ 1125899906842624 := by have := hul.out; have := HOK.out.used; omega
      have b2 : q ≤ 1048576 := by have := hcl.out; have := HF1.out; omega
      have p1 : IntKind.i64.wrap ((u : Int) + q) = (u : Int) + q := by rw [IntKind.wrap_i64]; omega
      have hD5 := onUsed hD4 ((u : Int) + q)
      dsimp only at hD5
      have hun : ((leftU L (fun z => left z && !z.sameKey (.string f.n)) D.S : Nat) : Int) = (u : Int) + q := by rw [hunext, hu, hq]; exact Int.natCast_add _ _
      rw [← hun] at hD5
      have hp1 : y.p ≠ y.m := HD.out.pm
      have hps := HD.out.lt foot_p
      have hrr := HRG1.out.lt
      have HR : Hid (CrR y D L w.heap.size r M w (fun z => left z && !z.sameKey (.string f.n)) cnt' (fun n => if n = f.n then v' else V n) (w3.setCell ⟨y.p, 1, none⟩ (.int .i64 ((leftU L (fun z => left z && !z.sameKey (.string f.n)) D.S : Nat) : Int)))) := Lib.hid ⟨
        ranges_block hrg3 (Below.heap_setCell _ _ _ _ hp1.symm) (Below.heap_setCell _ _ _ _ (by have := hrp.out _ foot_p; simp; omega)),
        hD5,
        fun g hg k e => by
          by_cases eg : g.n = f.n
          · rw [if_pos eg] at e
            have := uniq_eq HD.out.uq hg HFS.out eg
            subst this
            exact HVS.out g hg k (hvb k e)
          · rw [if_neg eg] at e
            exact HVS.out g hg k e,
        hon3.setCell (.inl foot_p) _,
        htm3.block (Below.heap_setCell _ _ _ _ (by simp; omega))⟩
      rw [hun] at HR
      replace HR := Lib.hid HR.out.drew
      have hne : ¬ y.fb f.n = y.p := fun e => HY.out.2 e.symm
      clear hD5 hD4 hF4 hnext hunext hb3 hrb hrg3 htm3 hon3 hFA hvb ho3 hDk hv' hu hq hun hps hrr hp1 look hen hlk C HR0 HTM HON HDK
      go_wp2_with fail
      go_still_tail 12, (by kernel_rfl)
      change wpList _ _ _ _ _ w3.drew
      go_wp2_with fail
      go_roundw
      case rel => exact ⟨_, cnt', _, HR⟩
      case measure =>
        have h1 := HRG.out.left_eq
        have h2 : World.rangeLeft _ y.m r = cnt' := (HR.out.rg).left_eq
        have h3 := HLT.out
        rw [h1]
        refine Nat.lt_of_le_of_lt (Nat.le_of_eq ?_) h3
        exact h2
end Go.Proofs.Ytcnnifogppabdaa
