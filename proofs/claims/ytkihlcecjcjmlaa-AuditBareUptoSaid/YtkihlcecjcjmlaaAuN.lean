/-
  The landed newBacking: it ends, whatever was accepted.
-/
import Derived.Test.YtkihlcecjcjmlaaAuM
namespace Go.Proofs.Ytkihlcecjcjmlaa
open Go.RowKit
set_option linter.unusedVariables false
set_option maxRecDepth 100000

theorem info_sp : (Try.prog.info? 65).map (fun i => (i.zero, i.size, i.bytes)) = some (some (.agg #[.int .i64 0, .int .i64 0]), 2, 16) := by kernel_rfl
theorem ac_cell {w : World} {g : Nat} {x : Ac} {a : Option Addr} {c : Nat} (h : w.heap[g]? = some (.cells (acC x a c) 57 (0, 0))) :
    w.cell? ⟨g, 0, none⟩ = some (.int .i64 x.tm) ∧ w.cell? ⟨g, 1, none⟩ = some (.int .i64 x.ttl) ∧ w.cell? ⟨g, 2, none⟩ = some (.string (bs x.z)) ∧ w.cell? ⟨g, 3, none⟩ = some (.string (bs x.s.n)) :=
  ⟨(cell_of_row _ g 0 _ _ _ h).trans rfl, (cell_of_row _ g 1 _ _ _ h).trans rfl, (cell_of_row _ g 2 _ _ _ h).trans rfl, (cell_of_row _ g 3 _ _ _ h).trans rfl⟩
theorem ac_range {w : World} {g : Nat} {x : Ac} {a : Option Addr} {c : Nat} (h : w.heap[g]? = some (.cells (acC x a c) 57 (0, 0))) : w.rangeAt g 3 (seL x.s a c) := by
  intro j u hj
  rw [cell_of_row _ g (3 + j) _ _ _ h]
  have : (seL x.s a c)[j]? = (acL x a c)[3 + j]? := by
    have e : acL x a c = [.int .i64 x.tm, .int .i64 x.ttl, .string (bs x.z)] ++ seL x.s a c := rfl
    rw [e, List.getElem?_append_right (by simp)]
    simp
  rw [this] at hj
  simpa [acC] using hj
/-- A block of one type is not the row of a slice of another. -/
theorem row_apart {w : World} {base size n g : Nat} {e t : TypeId} {v : Value} {xs : List Value} {cs : Array Value} {fz : Nat × Nat} (h : w.ownsRow base e size v n xs) (hg : w.heap[g]? = some (.cells cs t fz)) (hne : t ≠ e) : some g ≠ v.ownBlock := by
  intro he
  obtain ⟨cs', fz', hc⟩ := own_cells h g he.symm
  rw [hg] at hc
  injection hc with hc
  cases hc
  exact hne rfl
theorem map_apart {w : World} {base size n g ck : Nat} {e : TypeId} {v : Value} {xs : List Value} {es : Array MapEntry} (h : w.ownsRow base e size v n xs) (hg : w.heap[g]? = some (.map es ck)) : some g ≠ v.ownBlock := by
  intro he
  obtain ⟨cs', fz', hc⟩ := own_cells h g he.symm
  rw [hg] at hc
  injection hc with hc
  cases hc
theorem own_apart {w w' : World} {base base' size size' n n' : Nat} {e e' : TypeId} {v v' : Value} {xs xs' : List Value} (h : w.ownsRow base e size v n xs) (h2 : w.ownsRow base' e' size' v' n' xs') (hne : e ≠ e') (hg : w.grownBy w' v'.ownBlock) : w'.ownsRow base e size v n xs := by
  refine h.kept hg ?_
  cases hv : v.ownBlock with
  | none => exact .inl rfl
  | some g =>
    refine .inr (fun e1 => ?_)
    obtain ⟨cs, fz, hc⟩ := own_cells h g hv
    exact row_apart h2 hc hne e1
theorem fact_at {o : Bs} {t c : Int} {ds : List Bs} {j : Nat} (h : j < ds.length) : (factsP o t c ds).length = ds.length ∧ (factsP o t c ds)[j]? = some ⟨lower o, t, c, ds[j]⟩ := by
  unfold factsP
  simp [h]
theorem fact_range {w : World} {B n c g : Nat} {F : List Fa} (h : w.ownsRow B 62 4 (.slice (some ⟨g, 0, none⟩) n c) n (F.flatMap faL)) {j : Nat} {f : Fa} (hj : F[j]? = some f) : w.rangeAt g (j * 4) (faL f) := by
  have hfl : ∀ (F : List Fa) (j : Nat) (f : Fa), F[j]? = some f → ∀ i, i < 4 → (F.flatMap faL)[j * 4 + i]? = (faL f)[i]? := by
    intro F
    induction F with
    | nil => intro j f h; simp at h
    | cons a F ih =>
      intro j f h i hi
      rw [List.flatMap_cons]
      cases j with
      | zero =>
        simp at h
        subst h
        rw [List.getElem?_append_left (by show 0 * 4 + i < 4; omega)]
        simp
      | succ j =>
        rw [List.getElem?_append_right (by show 4 ≤ (j + 1) * 4 + i; omega)]
        have := ih j f (by simpa using h) i hi
        rw [show (j + 1) * 4 + i - (faL a).length = j * 4 + i by show (j + 1) * 4 + i - 4 = _; omega]
        exact this
  rcases h with ⟨h0, ⟨h1, h2⟩ | ⟨g', cap, cur, h1, hb, hh, hc, hm, hsz, ht⟩⟩
  · cases h1
  · injection h1 with h1 _ _
    injection h1 with h1
    injection h1 with h1 _ _
    subst h1
    intro i u hi
    have hi4 : i < 4 := (List.getElem?_eq_some_iff.1 hi).1
    have := hfl F j f hj i hi4
    rw [hi, ← ht] at this
    rw [cell_of_row _ _ _ _ _ _ hh]
    have hlt := (List.getElem?_eq_some_iff.1 this).1
    rw [List.length_take] at hlt
    rw [List.getElem?_take_of_lt (by omega)] at this
    simpa using this

set_option maxHeartbeats 4000000 in
set_option maxRecDepth 100000 in
theorem newBacking_any (A : Option Addr) (L : List Ac) (c : Nat) (w : World) (hS : Acs w A L) (hl : L.length ≤ 1048576) :
    Calls Try.prog 11 #[.slice A L.length c] w fun e w' => (∃ m, e = .returned (.map m)) ∧ Below w.heap.size w w' := by
  obtain ⟨n, hn⟩ : ∃ n, n = L.length := ⟨_, rfl⟩
  rw [← hn]
  rw [← hn] at hl
  have HN := Lib.hid hn
  have HS := Lib.hid hS
  have P0 := Lib.hid (BkM.new w w.heap.size)
  have B0 : Hid (Below w.heap.size w (w.alloc (.map #[] 0))) := Lib.hid (Below.alloc (Below.refl _ _) (Nat.le_refl _) _)
  have hmm := @run_makeMap Try.prog
  obtain ⟨i0, hi, hy0, hy1, hy2⟩ := info_parts info_sp
  clear hn hS
  go_enter Try.func11, Try.ntmps11
  go_wp2_with fail
  clear hmm
  go_loopw [11] (fun v11 wr => ∃ k : Nat, v11 = .int .i64 k ∧ k ≤ n ∧ Hid (BkM wr w.heap.size w.heap.size (k * 1048576)) ∧ Hid (Below w.heap.size w wr)) (fun v11 _ => n - (intOf v11).toNat)
  case atStart => exact ⟨0, rfl, by omega, P0, B0⟩
  case round =>
    obtain ⟨k, rfl, hk, HP, HB⟩ := hrel
    rename World => wr
    clear P0 B0
    by_cases hlt : k < n
    · have hlt' : (k : Int) < (n : Int) := by omega
      have kL : k < L.length := by have := HN.out; omega
      obtain ⟨g1, o1, rfl, hc1⟩ := id HS.out (by omega)
      obtain ⟨sa, sc, E1, R1⟩ := hc1 k kL
      have R1' := range_on R1 HB.out
      obtain ⟨x, hx⟩ : ∃ x, x = L[k] := ⟨_, rfl⟩
      rw [← hx] at R1' E1
      have hsz := HB.out.size
      have i1 : Hid ((Try.prog.info? 57).map (·.size) = some (acC x sa sc).size) := Lib.hid info_ac
      have j1 : Hid ((Try.prog.info? 57).map (·.size) = some (acL x sa sc).length) := Lib.hid info_ac
      have one1 : Hid ((acC x sa sc).all (·.oneCell') = true) := Lib.hid (by simp [acC, acL, Value.oneCell'])
      have z1 : Hid ((#[.int .i64 0, .int .i64 0, .string ⟨#[]⟩, .string ⟨#[]⟩, .int .i64 0, .int .i64 0, .int .i64 0, .int .i64 0, .int .i64 0, .string ⟨#[]⟩, .slice none 0 0] : Array Value).size = (acC x sa sc).size) := Lib.hid rfl
      have rZ := row_new (w := wr) (k := wr.heap.size) (.cells #[.int .i64 0, .int .i64 0, .string ⟨#[]⟩, .string ⟨#[]⟩, .int .i64 0, .int .i64 0, .int .i64 0, .int .i64 0, .int .i64 0, .string ⟨#[]⟩, .slice none 0 0] 57 (0, 0)) rfl
      have r5 := setRow_heap _ _ _ (acC x sa sc) _ _ rZ
      have q1 : Below wr.heap.size wr ((wr.alloc (.cells #[.int .i64 0, .int .i64 0, .string ⟨#[]⟩, .string ⟨#[]⟩, .int .i64 0, .int .i64 0, .int .i64 0, .int .i64 0, .int .i64 0, .string ⟨#[]⟩, .slice none 0 0] 57 (0, 0))).setRow wr.heap.size (acC x sa sc)) := Below.setRow (Below.alloc (Below.refl _ _) (Nat.le_refl _) _) (Nat.le_refl _) _
      obtain ⟨W1, hW1⟩ : ∃ W1, W1 = (wr.alloc (.cells #[.int .i64 0, .int .i64 0, .string ⟨#[]⟩, .string ⟨#[]⟩, .int .i64 0, .int .i64 0, .int .i64 0, .int .i64 0, .int .i64 0, .string ⟨#[]⟩, .slice none 0 0] 57 (0, 0))).setRow wr.heap.size (acC x sa sc) := ⟨_, rfl⟩
      rw [← hW1] at r5 q1
      obtain ⟨-, -, c2, c3⟩ := ac_cell r5
      have HW1 := Lib.hid hW1
      have R5 := Lib.hid r5
      have P1 := Lib.hid (HP.out.below q1)
      have B1 := Lib.hid (Below.trans HB.out (q1.mono hsz))
      have WI := Lib.hid (fun W => Within_any x.s.n x.z W)
      have SE := Lib.hid (E1.on B1.out)
      have SR := Lib.hid (fun (W : World) (h : W.heap[wr.heap.size]? = some (.cells (acC x sa sc) 57 (0, 0))) => ac_range h)
      have EC := Lib.hid (fun (W : World) (h : W.heap[wr.heap.size]? = some (.cells (acC x sa sc) 57 (0, 0))) => ac_cell h)
      obtain ⟨C, hC⟩ : ∃ C, C = acC x sa sc := ⟨_, rfl⟩
      obtain ⟨l1, hl1⟩ : ∃ l1, l1 = acL x sa sc := ⟨_, rfl⟩
      have hCl : C = l1.toArray := by rw [hC, hl1]; rfl
      rw [← hl1] at R1' j1
      rw [← hC] at i1 one1 z1 HW1 R5 SR EC
      have HCL := Lib.hid hCl
      clear hc1 E1 R1 r5 q1 hW1 hC hl1 hCl hx HB HP
      go_wp2_with (first
        | (refine wpList_load_mid rfl 57 (.tmp 13) rfl g1 (o1 + k * 11) rfl l1 _ R1' Try.underlying57 rfl j1.out ?_; rw [← HCL.out])
        | (refine wpList_store_row rfl 57 (.tmp 5) (.tmp 14) rfl wr.heap.size C rfl rfl 57 _ rZ i1.out (by first | exact z1.out | exact z1.out.symm) one1.out ?_; rw [← HW1.out])
        | fail)
      refine (WI.out _).mono ?_
      rintro e w2 ⟨rfl, b2⟩
      have sz1 : wr.heap.size < W1.heap.size := (Array.getElem?_eq_some_iff.1 R5.out).1
      have R52 := Lib.hid ((b2.block _ sz1).trans R5.out)
      have P2 := Lib.hid (P1.out.below b2)
      have B2 := Lib.hid (Below.trans B1.out (b2.mono B1.out.size))
      have SE2 := Lib.hid (SE.out.on b2)
      clear b2 R5 P1 B1 SE WI c2 c3 R1' rZ i1 j1 one1 z1 HW1 HCL sz1
      cases hw : within x.s.n x.z with
      | false =>
        have P3 : Hid (BkM w2 w.heap.size w.heap.size ((k + 1) * 1048576)) := Lib.hid (P2.out.more (by omega))
        clear hw P2
        go_wp2_with fail
        go_roundw
        case rel => exact ⟨k + 1, by go_num, by omega, P3, B2⟩
        case measure => simp [intOf]; omega
      | true =>
        clear hw
        have sr := SR.out w2 R52.out
        have jS : Hid ((Try.prog.info? 55).map (·.size) = some (seL x.s sa sc).length) := Lib.hid info_se
        have FA := Lib.hid (facts_any x.s sa sc w2 SE2.out)
        obtain ⟨sl, hsl⟩ : ∃ l, l = seL x.s sa sc := ⟨_, rfl⟩
        obtain ⟨SC, hSC⟩ : ∃ c, c = seC x.s sa sc := ⟨_, rfl⟩
        have hcl : sl.toArray = SC := by rw [hsl, hSC]; rfl
        rw [← hsl] at sr jS
        rw [← hSC] at FA
        have HCL2 := Lib.hid hcl
        clear hcl hsl hSC
        go_wp2_with (first
          | (refine wpList_load_mid rfl 55 (.tmp 22) rfl wr.heap.size 3 rfl sl _ sr Try.underlying55 rfl jS.out ?_; rw [HCL2.out])
          | fail)
        refine FA.out.mono ?_
        rintro e w3 ⟨v3, rfl, ow3, b3⟩
        obtain ⟨A3, c3, rfl, hA3⟩ : ∃ A3 c3, v3 = .slice A3 x.s.ds.length c3 ∧ (0 < x.s.ds.length → ∃ g3, A3 = some ⟨g3, 0, none⟩) := by
          rcases ow3.2 with ⟨h1, h2⟩ | ⟨g', cap, cur, h1, -⟩
          · exact ⟨none, 0, by rw [h1, h2], fun h => by omega⟩
          · exact ⟨_, cap, h1, fun _ => ⟨g', rfl⟩⟩
        have hfo : ∀ j, j < x.s.ds.length → ∃ f, (factsP (ownS x.s) (typS x.s) x.s.c x.s.ds)[j]? = some f ∧ FaOk f := fun j hj => by
          refine ⟨_, (fact_at hj).2, ?_, ?_, SE2.out.ok.c, SE2.out.ok.d _ (List.getElem_mem hj)⟩
          · have := lower_len_le (ownS x.s)
            show (lower (ownS x.s)).length ≤ _
            omega
          · show I64a (typS x.s)
            unfold typS
            split
            · exact SE2.out.ok.t
            · show -9223372036854775808 ≤ (6 : Int) ∧ (6 : Int) ≤ 9223372036854775807
              omega
        have hml := SE2.out.ok.l
        obtain ⟨F, hF⟩ : ∃ F, F = factsP (ownS x.s) (typS x.s) x.s.c x.s.ds := ⟨_, rfl⟩
        rw [← hF] at ow3 hfo
        obtain ⟨m, hm⟩ : ∃ m, m = x.s.ds.length := ⟨_, rfl⟩
        rw [← hm] at ow3 hfo hA3 hml ⊢
        have HFO := Lib.hid hfo
        have HA3 := Lib.hid hA3
        have OW3 := Lib.hid ow3
        have R53 := Lib.hid ((b3.block _ (Array.getElem?_eq_some_iff.1 R52.out).1).trans R52.out)
        have P3 : Hid (BkM w3 w.heap.size w.heap.size (k * 1048576 + 0)) := Lib.hid ((P2.out.below b3).more (by omega))
        have B3 := Lib.hid (Below.trans B2.out (b3.mono B2.out.size))
        have SZ3 := Lib.hid (Nat.le_trans B2.out.size (Nat.le_refl w2.heap.size))
        clear hF hm ow3 hfo hA3 b3 R52 P2 B2 sr jS FA HCL2 SE2 SR
        go_wp2_with fail
        go_loopw [26] (fun v26 wq => ∃ j : Nat, v26 = .int .i64 j ∧ j ≤ m ∧ Hid (BkM wq w.heap.size w.heap.size (k * 1048576 + j)) ∧ Hid (Below w.heap.size w wq) ∧ Hid (wq.ownsRow w2.heap.size 62 4 (.slice A3 m c3) m (F.flatMap faL)) ∧ Hid (wq.heap[wr.heap.size]? = some (.cells C 57 (0, 0)))) (fun v26 _ => m - (intOf v26).toNat)
        case atStart => exact ⟨0, rfl, by omega, P3, B3, OW3, R53⟩
        case round =>
          obtain ⟨j, rfl, hj, HP, HB, HO, HR⟩ := hrel
          rename World => wq
          clear P3 B3 OW3 R53
          by_cases hlj : j < m
          · have hlj' : (j : Int) < (m : Int) := by omega
            obtain ⟨g3, rfl⟩ := HA3.out (by omega)
            obtain ⟨f, hf, hok⟩ := HFO.out j hlj
            have R1 := fact_range HO.out hf
            have iF : Hid ((Try.prog.info? 62).map (·.size) = some (faC f).size) := Lib.hid info_fa
            have jF : Hid ((Try.prog.info? 62).map (·.size) = some (faL f).length) := Lib.hid info_fa
            have oF : Hid ((faC f).all (·.oneCell') = true) := Lib.hid (by simp [faC, Value.oneCell'])
            have zF : Hid ((#[.string ⟨#[]⟩, .int .i64 0, .int .i64 0, .string ⟨#[]⟩] : Array Value).size = (faC f).size) := Lib.hid rfl
            have rZ := row_new (w := wq) (k := wq.heap.size) (.cells #[.string ⟨#[]⟩, .int .i64 0, .int .i64 0, .string ⟨#[]⟩] 62 (0, 0)) rfl
            have r7 := setRow_heap _ _ _ (faC f) _ _ rZ
            have q1 : Below wq.heap.size wq ((wq.alloc (.cells #[.string ⟨#[]⟩, .int .i64 0, .int .i64 0, .string ⟨#[]⟩] 62 (0, 0))).setRow wq.heap.size (faC f)) := Below.setRow (Below.alloc (Below.refl _ _) (Nat.le_refl _) _) (Nat.le_refl _) _
            obtain ⟨W4, hW4⟩ : ∃ W4, W4 = (wq.alloc (.cells #[.string ⟨#[]⟩, .int .i64 0, .int .i64 0, .string ⟨#[]⟩] 62 (0, 0))).setRow wq.heap.size (faC f) := ⟨_, rfl⟩
            rw [← hW4] at r7 q1
            have r54 := (q1.block _ (Array.getElem?_eq_some_iff.1 HR.out).1).trans HR.out
            obtain ⟨c0, c1, -, -⟩ := EC.out W4 r54
            have q2 : Below wq.heap.size wq (W4.alloc (.cells #[.int .i64 x.tm, .int .i64 x.ttl] 65 (0, 0))) := Below.alloc q1 q1.size _
            have rS := row_new (w := W4) (k := W4.heap.size) (.cells #[.int .i64 x.tm, .int .i64 x.ttl] 65 (0, 0)) rfl
            have P4 := HP.out.below q2
            have O4 := ownsRow_below HO.out q2 (Nat.le_refl _)
            have R4 := (q2.block _ (Array.getElem?_eq_some_iff.1 HR.out).1).trans HR.out
            have B4 := Below.trans HB.out (q2.mono HB.out.size)
            have hmbl := P4.lt
            obtain ⟨es4, ck4, bk4⟩ := id P4
            obtain ⟨v0, st, w5, nn, xs, m1, g1, hnn, ow0, fin⟩ := P4.step (by omega) hok (faC f) rfl
            have O5 := own_map O4 bk4.map g1
            have R5 := (g1.block _ (Array.getElem?_eq_some_iff.1 R4).1 (fun e => by injection e with e; rw [e, bk4.map] at R4; cases R4)).trans R4
            have S5 := (g1.block _ (Array.getElem?_eq_some_iff.1 rS).1 (fun e => by injection e with e; rw [e, bk4.map] at rS; cases rS)).trans rS
            have B5 : Below w.heap.size w w5 := Below.grown B4 g1 B4.size (fun i hi => by injection hi with hi; omega)
            have Z5 : w.heap.size ≤ w5.heap.size := B5.size
            have HW4 := Lib.hid hW4
            have R7 := Lib.hid r7
            have HNN : Hid ((nn + 1) * 16 ≤ 140737488355328) := Lib.hid (by omega)
            have OW0 := Lib.hid ow0
            have FIN := Lib.hid fin
            have O5H := Lib.hid O5
            have R5H := Lib.hid R5
            have B5H := Lib.hid B5
            have NW := Lib.hid (World.news_of_block S5)
            have Z5H := Lib.hid Z5
            clear hW4 r7 q1 q2 r54 rS P4 O4 R4 B4 hmbl bk4 g1 hnn ow0 fin O5 R5 S5 B5 Z5 hok hf HP HO HR
            obtain ⟨D, hD⟩ : ∃ D, D = faC f := ⟨_, rfl⟩
            obtain ⟨fl, hfl⟩ : ∃ l, l = faL f := ⟨_, rfl⟩
            have hdl : fl.toArray = D := by rw [hD, hfl]; rfl
            rw [← hfl] at R1 jF
            rw [← hD] at iF oF zF R7 m1 HW4
            have HDL := Lib.hid hdl
            clear hD hfl hdl
            go_wp2_with (first
              | (refine wpList_load_mid rfl 62 (.tmp 28) rfl g3 (j * 4) rfl fl _ R1 Try.underlying62 rfl jF.out ?_; rw [HDL.out])
              | (refine wpList_store_row rfl 62 (.tmp 7) (.tmp 29) rfl wq.heap.size D rfl rfl 62 _ rZ iF.out (by first | exact zF.out | exact zF.out.symm) oF.out ?_; rw [← HW4.out])
              | (refine wpList_load_row rfl 62 (.tmp 7) rfl wq.heap.size rfl 62 _ (0, 0) _ R7.out Try.underlying62 rfl iF.out ?_)
              | (at_builtin; refine wpList_append_at rfl (.tmp 32) (.tmp 38) 63 rfl w.heap.size 65 i0 (.agg #[.int .i64 0, .int .i64 0]) 2 16 Try.underlying63 hi hy0 hy1 hy2 rfl (by decide) _ nn xs rfl OW0.out ⟨W4.heap.size, 0, none⟩ 1 1 [.int .i64 x.tm, .int .i64 x.ttl] rfl rfl NW.out (by intro u hu; simp only [List.mem_cons, List.not_mem_nil, or_false] at hu; rcases hu with rfl | rfl <;> rfl) (by have := HNN.out; unfold maxLen; omega) HNN.out Z5H.out ?_)
              | fail)
            intro v9 w9 own9 hg9 hf9
            obtain ⟨w6, m3, P6, g6, es9, ck9, hm9⟩ := FIN.out w9 v9 _ hg9 own9 (by rcases hf9 with e | e; exact .inl e; exact .inr ⟨_, e, Nat.le_refl _⟩)
            have O9 := own_apart O5H.out OW0.out (by decide) hg9
            have O6 := Lib.hid (own_map O9 hm9 g6)
            have R9 := (hg9.block _ (Array.getElem?_eq_some_iff.1 R5H.out).1 (row_apart OW0.out R5H.out (by decide))).trans R5H.out
            have R6 := Lib.hid ((g6.block _ (Array.getElem?_eq_some_iff.1 R9).1 (fun e => by injection e with e; rw [e, hm9] at R9; cases R9)).trans R9)
            have B9 : Below w.heap.size w w9 := Below.grown B5H.out hg9 B5H.out.size (fun i hi => (OW0.out.lt i hi).1)
            have B6 := Lib.hid (Below.grown B9 g6 B9.size (fun i hi => by injection hi with hi; omega))
            have P6H : Hid (BkM w6 w.heap.size w.heap.size (k * 1048576 + (j + 1))) := Lib.hid (P6.more (by omega))
            clear own9 hg9 hf9 P6 g6 hm9 O9 R9 B9 FIN O5H R5H B5H OW0 NW HNN
            go_wp2_with fail
            go_roundw
            case rel => exact ⟨j + 1, by go_num, by omega, P6H, B6, O6, R6⟩
            case measure => simp [intOf]; omega
          · have hlj' : ¬ (j : Int) < (m : Int) := by omega
            obtain rfl : j = m := by omega
            have P6 : Hid (BkM wq w.heap.size w.heap.size ((k + 1) * 1048576)) := Lib.hid (HP.out.more (by omega))
            clear HP HO HR HA3 HFO
            go_wp2_with fail
            go_roundw
            case rel => exact ⟨k + 1, by go_num, by omega, P6, HB⟩
            case measure => simp [intOf]; omega
    · have hlt' : ¬ (k : Int) < (n : Int) := by omega
      obtain rfl : k = n := by omega
      clear HP HS
      go_wp2_with fail
      go_ret
      exact ⟨⟨_, rfl⟩, HB.out⟩
end Go.Proofs.Ytkihlcecjcjmlaa
