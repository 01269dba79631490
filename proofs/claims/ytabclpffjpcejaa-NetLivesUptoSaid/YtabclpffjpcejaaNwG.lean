/-
  NetNumbers: its walk.
-/
import Derived.Test.YtabclpffjpcejaaNwF
import Derived.Test.YtabclpffjpcejaaHdB
import Derived.Deep.CutBlock
import Derived.Deep.DeepCutAuto
namespace Go.Proofs.Ytabclpffjpcejaa
open Go.RowKit Go.Maps
set_option linter.unusedVariables false
set_option maxRecDepth 100000

theorem rise_snoc {L : List Cn} {c : Cn} {j : Nat} (h : RiseN L) (hj : ∀ d ∈ L, d.id ≤ j) (hc : j < c.id) : RiseN (L ++ [c]) := by
  unfold RiseN idsN at *
  rw [List.map_append, List.pairwise_append]
  refine ⟨h, by simp, fun a ha b hb => ?_⟩
  rw [List.mem_map] at ha
  obtain ⟨d, hd, rfl⟩ := ha
  simp at hb
  have := hj d hd
  omega
theorem ids_snoc (L : List Cn) (c : Cn) : idsN (L ++ [c]) = idsN L ++ [(c.id : Int)] := by simp [idsN]
theorem drop_snoc {L : List Cn} {c : Cn} {j : Nat} (hj : ∀ d ∈ L, d.id ≤ j) (hc : j < c.id) : dropC (L ++ [c]) (c.id : Int) = L := by
  unfold dropC
  rw [List.filter_append]
  have e1 : L.filter (fun d => decide ¬ ((d.id : Int) = (c.id : Int))) = L := List.filter_eq_self.2 fun d hd => by have := hj d hd; simp; omega
  rw [e1]
  simp
/-- Between two rounds: k dials were made, no number beyond j is there, the list has the numbers that are. -/
def Num (w : World) (k j : Nat) (v6 : Value) (wx : World) : Prop :=
  ∃ (N : Nat) (L : List Cn), N ≤ k ∧ NetS (w.heap.size + 1) w.heap.size N k L wx ∧ RiseN L ∧ L.length ≤ k ∧ (∀ c ∈ L, c.id ≤ j) ∧ OwnI wx w.heap.size v6 (idsN L) ∧ OffV (FootN (w.heap.size + 1) w.heap.size L) v6 ∧ (∀ i, FootN (w.heap.size + 1) w.heap.size L i → w.heap.size ≤ i) ∧ Below w.heap.size w wx
/-- Behind a dial: the newest connection is not on the list yet. -/
def NumD (w : World) (k : Nat) (v6 : Value) (wx : World) : Prop :=
  ∃ (N : Nat) (L : List Cn) (c : Cn), N ≤ k + 1 ∧ c.id = k + 1 ∧ NetS (w.heap.size + 1) w.heap.size N (k + 1) (L ++ [c]) wx ∧ RiseN L ∧ L.length ≤ k ∧ (∀ c ∈ L, c.id ≤ k) ∧ OwnI wx w.heap.size v6 (idsN L) ∧ OffV (FootN (w.heap.size + 1) w.heap.size (L ++ [c])) v6 ∧ (∀ i, FootN (w.heap.size + 1) w.heap.size (L ++ [c]) i → w.heap.size ≤ i) ∧ Below w.heap.size w wx
section
variable {w wr : World} {k : Nat} {v6 : Value}
theorem Num.below {j : Nat} (h : Num w k j v6 wr) : Below w.heap.size w wr := by obtain ⟨_, _, _, _, _, _, _, _, _, _, h⟩ := h; exact h
theorem NumD.below (h : NumD w k v6 wr) : Below w.heap.size w wr := by obtain ⟨_, _, _, _, _, _, _, _, _, _, _, _, h⟩ := h; exact h
theorem NumDial {j : Nat} (h : Num w k j v6 wr) (hk : k ≤ 1000) (hj : j ≤ k) (a : Nat) (ha : a ≤ 4294967295) :
    Calls Try.prog 13 #[.pointer (some ⟨w.heap.size + 1, 0, none⟩), .int .i64 a] wr fun e w' => e = .returned (.tuple #[.int .i64 ((k : Int) + 1), .int .i64 0]) ∧ NumD w k v6 w' := by
  obtain ⟨N, L, hN, hS, hR, hl, hle, hO, ho, hF, hB⟩ := h
  refine (Dial_yes wr hS (by omega) (by omega) a ha).mono ?_
  rintro e w' ⟨rfl, L', ⟨g, rfl⟩, hS', hM, hF'⟩
  refine ⟨by simp, N + 1, L, _, by omega, rfl, hS', hR, hl, fun c hc => Nat.le_trans (hle c hc) hj, hO.mod hM ho, fun i hi hf => ?_, fun i hi => ?_, Mod.out hB hM hB.size hF⟩
  · rcases hF' i hf with h | h
    · exact ho i hi h
    · obtain ⟨A, c, hv, _⟩ := hO.nts
      have := (World.ownsRow.lt hO i hi).2; omega
  · rcases hF' i hi with h | h
    · exact hF i h
    · have := hB.size; omega
theorem NumDrop (h : NumD w k v6 wr) (hk : k ≤ 1000) :
    Calls Try.prog 20 #[.pointer (some ⟨w.heap.size + 1, 0, none⟩), .int .i64 ((k : Int) + 1)] wr fun e w' => e = .returned (.int .i64 0) ∧ Num w (k + 1) k v6 w' := by
  obtain ⟨N, L, c, hN, hc, hS, hR, hl, hle, hO, ho, hF, hB⟩ := h
  have e1 : ((k : Int) + 1) = ((c.id : Nat) : Int) := by omega
  have hf : fnd (L ++ [c]) ((k : Int) + 1) = some c := by rw [e1]; exact fnd_mem hS.uq (by simp)
  refine (Drop_yes wr hS _ (by unfold I64n; omega) hf).mono ?_
  rintro e w' ⟨rfl, hS', hM⟩
  rw [e1, drop_snoc hle (by omega)] at hS'
  have hsub : ∀ i, FootN (w.heap.size + 1) w.heap.size L i → FootN (w.heap.size + 1) w.heap.size (L ++ [c]) i := fun i hi => foot_sub (fun d hd => by simp [hd]) hi
  exact ⟨rfl, N, L, hN, hS', hR, by omega, hle, hO.mod hM ho, fun i hi hf => ho i hi (hsub i hf), fun i hi => hF i (hsub i hi), Mod.out hB hM hB.size hF⟩
theorem NumDrop2 (h : Num w (k + 1) k v6 wr) (hk : k ≤ 1000) :
    Calls Try.prog 20 #[.pointer (some ⟨w.heap.size + 1, 0, none⟩), .int .i64 ((k : Int) + 1)] wr fun e w' => e = .returned (.int .i64 150) ∧ w' = wr := by
  obtain ⟨N, L, hN, hS, hR, hl, hle, hO, ho, hF, hB⟩ := h
  exact Drop_no wr hS _ (by unfold I64n; omega) (fnd_none.2 fun c hc => by have := hle c hc; omega)
theorem Num.wide (h : Num w (k + 1) k v6 wr) : Num w (k + 1) (k + 1) v6 wr := by
  obtain ⟨N, L, hN, hS, hR, hl, hle, r⟩ := h
  exact ⟨N, L, hN, hS, hR, hl, fun c hc => Nat.le_succ_of_le (hle c hc), r⟩
theorem NumD_put {w1 w' : World} {v' : Value} {N : Nat} {L : List Cn} {c : Cn} (h : N ≤ k + 1 ∧ c.id = k + 1 ∧ NetS (w.heap.size + 1) w.heap.size N (k + 1) (L ++ [c]) wr ∧ RiseN L ∧ L.length ≤ k ∧ (∀ c ∈ L, c.id ≤ k) ∧ OwnI wr w.heap.size v6 (idsN L) ∧ OffV (FootN (w.heap.size + 1) w.heap.size (L ++ [c])) v6 ∧ (∀ i, FootN (w.heap.size + 1) w.heap.size (L ++ [c]) i → w.heap.size ≤ i) ∧ Below w.heap.size w wr) (hB1 : Below wr.heap.size wr w1) (ho' : OwnI w' w.heap.size v' (idsN L ++ [(k : Int) + 1])) (hg : w1.grownBy w' v6.ownBlock) (hfr : ∀ i, v'.ownBlock = some i → v6.ownBlock = some i ∨ w1.heap.size ≤ i) : Num w (k + 1) (k + 1) v' w' := by
  obtain ⟨hN, hc, hS, hR, hl, hle, hO, ho, hF, hB⟩ := h
  have hM : Mod (fun i => v6.ownBlock = some i) wr w' := (Mod.below (S := fun i => v6.ownBlock = some i) hB1).trans (Mod.grown hg (fun i e => e)) (fun i e => .inl e)
  have e1 : idsN (L ++ [c]) = idsN L ++ [(k : Int) + 1] := by rw [ids_snoc, hc]; simp
  refine ⟨N, L ++ [c], hN, hS.mod hM (fun i hi e => ho i e hi), rise_snoc hR hle (by omega), by simp; omega, fun d hd => ?_, by rw [e1]; exact ho', fun i hi hf => ?_, hF, Mod.out hB hM hB.size (fun i e => (World.ownsRow.lt hO i e).1)⟩
  · rw [List.mem_append, List.mem_singleton] at hd
    rcases hd with hd | rfl
    · have := hle d hd; omega
    · omega
  · rcases hfr i hi with h | h
    · exact ho i h hf
    · have := hS.lt hf; have := hB1.size; omega
end
set_option maxHeartbeats 4000000 in
theorem NetNumbers_any (w : World) (A : Option Addr) (xs : List Int) (n c : Nat) (hn : n = xs.length) (hx : Nts w A xs) (hI : ∀ a ∈ xs, I64n a) (hnm : n ≤ 9223372036854775807) (t : Int) (ht : 0 ≤ t ∧ t ≤ 18446744073709551615) :
    Calls Try.prog 6 #[.slice A n c, .int .u64 t] w fun e w' => e = .returned (.bool true) ∧ Below w.heap.size w w' := by
  have NN := Lib.hid (NewN_any w)
  have HN := Lib.hid hn
  have HX := Lib.hid hx
  have HI := Lib.hid hI
  clear hn hx hI
  go_enter Try.func6, Try.ntmps6
  go_wp2_with fail
  refine NN.out.mono ?_
  rintro e w1 ⟨rfl, s1, b1, z1⟩
  have hC0 : Num w 0 0 (.slice none 0 0) w1 := ⟨0, [], Nat.le_refl _, s1, by simp [RiseN, idsN], by simp, fun c hc => (by cases hc), OwnI.nil _ _, fun i hi => (by simp [Value.ownBlock] at hi), fun i hi => (by
    rcases hi with e | e | ⟨d, hd, _⟩
    · omega
    · omega
    · cases hd), b1⟩
  have C0 := Lib.hid hC0
  clear s1 b1 NN z1 hC0
  go_upto_block 0 with fail
  go_cut [6] (fun v6 wx => ∃ k, k ≤ 31 ∧ Num w k k v6 wx)
  case first =>
    go_wp2_with fail
    go_loopw [6, 16] (fun v6 u wr => ∃ k : Nat, u = .int .i64 k ∧ k ≤ n ∧ k ≤ 31 ∧ Num w k k v6 wr) (fun _ u _ => n - (intOf u).toNat)
    case atStart => exact ⟨0, rfl, by omega, by omega, C0.out⟩
    case round =>
      obtain ⟨k, rfl, hk, hk31, hNum⟩ := hrel
      rename_i wr
      have CR := Lib.hid hNum
      by_cases hlt : k < n
      · have hlt' : (k : Int) < (n : Int) := by omega
        have hkl : k < xs.length := by have := HN.out; omega
        obtain ⟨g1, o1, rfl, hc1⟩ := HX.out (by omega)
        have ck := cell_on (hc1 k hkl) hNum.below
        obtain ⟨x, hx⟩ : ∃ x, x = xs[k] := ⟨_, rfl⟩
        rw [← hx] at ck
        clear hNum hc1 hx
        by_cases h30 : (30 : Int) < (k : Int)
        · go_wp2_with fail
          go_meet
          exact ⟨k, hk31, CR.out⟩
        · have h30' : (k : Int) ≤ 30 := by omega
          obtain ⟨un, hun⟩ : ∃ un : Nat, un = (x % 18446744073709551616).toNat := ⟨_, rfl⟩
          have hwr : IntKind.u64.wrap x = (un : Int) := by
            have : IntKind.u64.wrap x = x % 18446744073709551616 := rfl
            rw [this, hun]; omega
          obtain ⟨y, hy⟩ : ∃ y : Nat, y = un % 4294967296 := ⟨_, rfl⟩
          have hy2 : (un : Int) % 4294967296 = (y : Int) := by omega
          have hy0 : (y : Int) ≤ 4294967295 := by omega
          have D1 := Lib.hid (NumDial CR.out (by omega) (Nat.le_refl _) y (by omega))
          have hs1 : (k : Int) % 32 = (k : Int) := by omega
          have hs2 : (k : Int) ≤ 64 := by omega
          have hs3 : (0 : Int) ≤ (k : Int) := by omega
          clear hun hy CR
          go_wp2_with fail
          refine D1.out.mono ?_
          rintro e w2 ⟨rfl, hD⟩
          have HD := Lib.hid hD
          clear hD D1
          cases hb : (bits .and .u64 (t / 2 ^ k) 1 == 1) with
          | true =>
            have R1 := Lib.hid (NumDrop HD.out (by omega))
            go_wp2_with fail
            refine R1.out.mono ?_
            rintro e w3 ⟨rfl, hN3⟩
            have N3 := Lib.hid hN3
            have R2 := Lib.hid (NumDrop2 hN3 (by omega))
            clear hN3 R1 HD
            go_wp2_with fail
            refine R2.out.mono ?_
            rintro e w4 ⟨rfl, rfl⟩
            go_wp2_with fail
            go_roundw
            case rel => exact ⟨k + 1, by go_num, by omega, by omega, N3.out.wide⟩
            case measure => simp [intOf]; omega
          | false =>
            have hB2 : Below w.heap.size w (w2.alloc (.cells #[.int .i64 ((k : Int) + 1)] 3)) := Below.alloc HD.out.below HD.out.below.size _
            obtain ⟨N2, L2, c2, hN2, hc2, hS2, hR2, hl2, hle2, hO2, ho2, hF2, hB22⟩ := id HD.out
            have HO2 := Lib.hid (hO2.alloc (.cells #[.int .i64 ((k : Int) + 1)] 3))
            obtain ⟨AA, cc, hv6, -, -⟩ := hO2.nts
            have HL2 : Hid (((idsN L2).length + 1) * 8 ≤ 140737488355328) := Lib.hid (by unfold idsN; rw [List.length_map]; omega)
            have hs2z := hB2.size
            have HB2 := Lib.hid hB2
            have hz2 : w.heap.size ≤ w2.heap.size := HD.out.below.size
            obtain ⟨il, hil⟩ : ∃ il, il = (idsN L2).length := ⟨_, rfl⟩
            rw [← hil] at hv6
            have HIL := Lib.hid hil
            subst hv6
            have PT : Hid (∀ v' w', OwnI w' w.heap.size v' (idsN L2 ++ [(k : Int) + 1]) → (w2.alloc (.cells #[.int .i64 ((k : Int) + 1)] 3)).grownBy w' (Value.slice AA il cc).ownBlock → (∀ i, v'.ownBlock = some i → (Value.slice AA il cc).ownBlock = some i ∨ (w2.alloc (.cells #[.int .i64 ((k : Int) + 1)] 3)).heap.size ≤ i) → Num w (k + 1) (k + 1) v' w') := Lib.hid (fun v' w' h1 h2 h3 =>
              NumD_put ⟨hN2, hc2, hS2, hR2, hl2, hle2, hO2, ho2, hF2, hB22⟩ (Below.alloc (Below.refl _ _) (Nat.le_refl _) _) h1 h2 h3)
            clear hN2 hc2 hS2 hR2 hl2 hle2 hO2 ho2 hF2 hB22 hB2 hil HD
            go_wp2_with (at_builtin; (with_reducible refine wpList_app_int rfl _ _ rfl w.heap.size (.slice AA il cc) (idsN L2) rfl HO2.out w2.heap.size 1 ((k : Int) + 1) rfl ?c1 HL2.out ?c2 ?_))
            case c1 => exact (cell_of_row _ _ 0 _ _ _ (row_new _ rfl)).trans rfl
            case c2 => exact hs2z
            intro v' w3 hown3 hg3 hfr3
            have N3 := Lib.hid (PT.out v' w3 hown3 hg3 (fun i hi => by have h := hfr3 i hi; simpa using h))
            clear hown3 hg3 hfr3 PT HO2
            go_wp2_with fail
            go_roundw
            case rel => exact ⟨k + 1, by go_num, by omega, by omega, N3.out⟩
            case measure => simp [intOf]; omega
      · obtain rfl : k = n := by omega
        clear hNum
        go_wp2_with fail
        go_meet
        exact ⟨k, hk31, CR.out⟩
  case rest =>
    obtain ⟨k, hk, N, L, hN, hS, hR, hl, hle, hO, ho, hF, hB⟩ := hcut
    have D1 := Lib.hid (Dial_no wc hS (-1) ⟨by omega, by omega⟩ (.inl (by omega)))
    have CN := Lib.hid (Conns_any wc hS hR (by omega))
    obtain ⟨A6, c6, hv6, hn6, -⟩ := hO.nts
    obtain ⟨il, hil⟩ : ∃ il, il = (idsN L).length := ⟨_, rfl⟩
    rw [← hil] at hv6
    subst hv6
    have HIL := Lib.hid hil
    have hilm : il ≤ 1000000 := by rw [hil]; unfold idsN; rw [List.length_map]; omega
    have HN6 := Lib.hid hn6
    have HB := Lib.hid hB
    have hsz := hB.size
    clear hS hR hl hle hO ho hF hB hil hn6 C0
    go_wp2_with fail
    refine D1.out.mono ?_
    rintro e w2 ⟨rfl, rfl⟩
    go_wp2_with fail
    refine CN.out.mono ?_
    rintro e w3 ⟨v, rfl, hO3, b3⟩
    obtain ⟨A7, c7, hv7, hn7, -⟩ := hO3.nts
    rw [← HIL.out] at hv7
    subst hv7
    have EQ := Lib.hid (EqualI_same A7 A6 (idsN L) il c7 c6 w3 hn7 (HN6.out.on b3) HIL.out hilm)
    have B3 := Lib.hid (Below.trans HB.out (b3.mono hsz))
    clear hO3 b3 hn7 CN D1
    have hsz3 := B3.out.size
    go_wp2_with fail
    refine EQ.out.mono ?_
    rintro e w4 ⟨rfl, b4⟩
    have B4 := Lib.hid (Below.trans B3.out (b4.mono hsz3))
    clear b4 EQ
    go_wp2_with fail
    go_ret
    exact ⟨rfl, B4.out⟩
end Go.Proofs.Ytabclpffjpcejaa
