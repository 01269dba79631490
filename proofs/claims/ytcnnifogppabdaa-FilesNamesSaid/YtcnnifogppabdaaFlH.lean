/-
  The landed disk's Append.
-/
import Derived.Test.YtcnnifogppabdaaFlG
namespace Go.Proofs.Ytcnnifogppabdaa
open Go.RowKit
set_option linter.unusedVariables false
set_option maxRecDepth 100000

theorem oldLen_le {D : Dk} (hok : D.Ok) (n : Bs) : oldLen D.S n ≤ 1048576 := by
  unfold oldLen
  cases h : find D.S n with
  | none => simp
  | some f => exact (hok.len f (find_some h).1).1
theorem write_any {y : Ly} {D : Dk} (A : Option Addr) (b : Bs) (m c : Nat) (n : Bs) (w : World) (h : DiskU y D (used D.S) w) (hok : D.Ok) (hN : y.N < maxLen) (hn : n.length ≤ 281474976710656) (hS : Bys w A b) (hm : m = b.length) (hA : A = none → c = 0) (hbl : b.length ≤ 140737488351232) :
    Calls Try.prog 50 #[.pointer (some ⟨y.p, 0, none⟩), .string (bs n), .slice A m c] w fun e w' => e = .returned (.bool (fits D.S D.room n b)) ∧ After y D.S { D with S := if fits D.S D.room n b then put D.S n b else D.S } w w' := by
  cases hfit : fits D.S D.room n b with
  | false =>
    rw [if_neg (by simp)]
    exact write_no A b m c n w h hn hm hbl (oldLen_le hok n) hok.used hok.room hfit
  | true =>
    rw [if_pos rfl]
    cases hf : find D.S n with
    | none => exact write_new A b m c n w h hf hn hS hm hA hbl hN hok.used hok.room hfit
    | some f => exact write_old A b m c n w h hf hn hS hm hA hbl (hok.len f (find_some hf).1).1 hok.used hok.room hfit
theorem After.ahead {y : Ly} {S : List Fil} {D' : Dk} {W w1 w' : World} (h : After y S D' w1 w') (ho : Only (Foot y S) W w1) : After y S D' W w' := by
  obtain ⟨y', h1, h2, h3, h4, h5⟩ := h
  refine ⟨y', h1, h2, ho.trans h3 fun i h => .inl h, fun k hk => ?_, h5⟩
  rcases h4 k hk with h | h
  · exact .inl h
  · exact .inr (Nat.le_trans ho.size h)
theorem After.same {y : Ly} {D' : Dk} {W w' : World} (h : DiskU y D' (used D'.S) w') (ho : Only (Foot y D'.S) W w') : After y D'.S D' W w' := ⟨y, rfl, h, ho, fun k hk => .inl hk, Nat.le_succ _⟩
theorem Dk.Ok.fused {D : Dk} (h : D.Ok) (x : Int) (hx : -1 ≤ x ∧ x ≤ 9223372036854775807) : Dk.Ok { D with fuse := x } := ⟨h.u, h.room, h.used, h.len, h.short, hx⟩
theorem Dk.Ok.shorted {D : Dk} (h : D.Ok) (x : Int) (hx : -1 ≤ x ∧ x ≤ 9223372036854775807) : Dk.Ok { D with short := x } := ⟨h.u, h.room, h.used, h.len, hx, h.fuse⟩
theorem burnt_in {f : Int} (h : -1 ≤ f ∧ f ≤ 9223372036854775807) (h0 : f ≠ 0) : -1 ≤ burnt f ∧ burnt f ≤ 9223372036854775807 := by
  unfold burnt
  split <;> omega
theorem canN_len {n : Bs} (h : canN n = true) : n.length ≤ 32 := by unfold canN at h; simp at h; omega

def Off (y : Ly) (S : List Fil) (A : Option Addr) (l : Bs) : Prop := 0 < l.length → ∀ p, A = some p → ¬ Foot y S p.block
theorem Bys.only {F : Nat → Prop} {w w' : World} {A : Option Addr} {l : Bs} (h : Bys w A l) (ho : Only F w w') (hA : 0 < l.length → ∀ p, A = some p → ¬ F p.block) : Bys w' A l := fun hn => by
  obtain ⟨g, off, e, hc⟩ := h hn
  refine ⟨g, off, e, fun j hj => ?_⟩
  rw [World.cell?_of_block (w := w) (a := ⟨g, off + j, none⟩) (ho.block g (World.block_lt_of_cell? w _ (hc j hj)) (hA hn _ e))]
  exact hc j hj
set_option maxHeartbeats 2000000 in
/-- Append behind the name and the fuse. -/
theorem append_tail {y : Ly} {D : Dk} (A : Option Addr) (b : Bs) (c : Nat) (n : Bs) (w : World) (h : DiskU y D (used D.S) w) (hok : D.Ok) (hN : y.N < maxLen) (hS : Bys w A b) (hc : b.length ≤ c) (hcm : c ≤ 9223372036854775807) (hA : A = none → c = 0) (hbl : b.length ≤ 140737488351232)
    (hcan : canN n = true) (hf : D.fuse ≠ 0) (hoff : Off y D.S A b) :
    Calls Try.prog 16 #[.pointer (some ⟨y.p, 0, none⟩), .string (bs n), .slice A b.length c] w fun e w' => e = .returned (.tuple #[.int .i64 (appendD D n b).1, .int .i64 (appendD D n b).2.1]) ∧ After y D.S (appendD D n b).2.2 w w' := by
  have hres : appendD D n b = if fits D.S D.room n (cutTo D.short b) = false then (0, 4, { D with short := -1, fuse := burnt D.fuse })
    else (((cutTo D.short b).length : Int), if D.short ≠ -1 ∧ D.short < b.length then 61 else 0, { D with S := put D.S n (cutTo D.short b), short := -1, fuse := burnt D.fuse }) := by
    unfold appendD
    rw [if_neg (by rw [hcan]; simp), if_neg hf]
  have hnl := canN_len hcan
  have C1 := Lib.hid (made_any w h)
  have C2 := Lib.hid (by have := canName_any n w (by omega); rw [hcan] at this; exact this)
  have C3 := Lib.hid (fun W (hB : Below w.heap.size w W) => by have := burn_any W (h.below hB) hok.fuse; rw [show burnE D.fuse = 0 by unfold burnE; rw [if_neg hf], show burnF D.fuse = burnt D.fuse by unfold burnF; rw [if_neg hf]] at this; exact this)
  have hok1 := hok.fused (burnt D.fuse) (burnt_in hok.fuse hf)
  have hok2 := hok1.shorted (-1) (by omega)
  have hsh := hok.short
  have HRES := Lib.hid hres
  have HLT := Lib.hid (fun k hk => h.lt (k := k) hk)
  clear hres hcan hf hok
  by_cases hp : D.short ≠ -1 ∧ D.short < b.length
  · obtain ⟨s, hs⟩ := Int.eq_ofNat_of_zero_le (show 0 ≤ D.short by omega)
    have hcut : cutTo D.short b = b.take s := by unfold cutTo; rw [if_pos hp, hs, Int.toNat_natCast]
    have hse : (if D.short ≠ -1 ∧ D.short < b.length then (61 : Int) else 0) = 61 := if_pos hp
    have hres := HRES.out
    rw [hcut, hse] at hres
    have HRES := Lib.hid hres
    have hsl : s < b.length := by omega
    have hpre := fun W => slice_pre A b c s (s : Int) (by omega) hc rfl W
    have hSp := hS.pre s
    have hxl : (b.take s).length = s := by rw [List.length_take]; omega
    have b1 : ((s : Int) != -1) = true := by rw [bne_iff_ne]; omega
    have b2 : (s : Int) < b.length := by omega
    rw [hxl] at hpre
    generalize b.take s = x at *
    have WR := Lib.hid (fun W (hD : DiskU y { D with short := -1, fuse := burnt D.fuse } (used D.S) W) (hSW : Bys W A x) => write_any A x s c n W hD hok2 hN (by omega) hSW hxl.symm hA (by omega))
    have hsx : D.short = s := hs
    have HSX := Lib.hid hsx
    have HXL := Lib.hid hxl
    clear hres hcut hse hp hs hsx hxl hok1 hok2 hsh hS hA hbl hc
    go_enter Try.func16, Try.ntmps16
    go_wp2_with fail
    with_reducible refine Calls.mono C1.out ?_
    rintro e w1 ⟨rfl, rfl⟩
    go_wp2_with fail
    with_reducible refine Calls.mono C2.out ?_
    rintro e w1 ⟨rfl, hB1⟩
    go_wp2_with fail
    with_reducible refine Calls.mono (C3.out _ hB1) ?_
    rintro e w2 ⟨rfl, hD2, ho2⟩
    have d3 := hD2.cells.2.2.2.1
    rw [show ({ D with fuse := burnt D.fuse } : Dk).short = (s : Int) from HSX.out] at d3
    have z3 := hD2.thaw 3
    have hD3 := onShort hD2 (-1)
    have hO1 : Only (Foot y D.S) w w1 := Only.of_below hB1
    have hO2 : Only (Foot y D.S) w w2 := hO1.trans ho2 fun i h => .inl h
    have hO3 : Only (Foot y D.S) w (w2.setCell ⟨y.p, 3, none⟩ (.int .i64 (-1))) := hO2.setCell (.inl foot_p) _
    have hS2 := hSp.only hO3 (fun hn => hoff (by omega))
    have HO3 := Lib.hid hO3
    have HD3 := Lib.hid hD3
    clear hD2 hD3 ho2 hB1 hSp hO1 hO2 hO3
    go_wp2_with fail
    with_reducible refine Calls.mono (WR.out _ HD3.out hS2) ?_
    rintro e w4 ⟨rfl, hA4⟩
    have hA4 := After.ahead hA4 HO3.out
    cases hfit : fits D.S D.room n x with
    | false =>
      rw [hfit, if_neg (by simp)] at hA4
      have hr := HRES.out
      rw [hfit, if_pos rfl] at hr
      have HR := Lib.hid hr
      have H4 := Lib.hid hA4
      clear hA4 hr HRES WR hfit d3 z3 hS2
      go_wp2_with fail
      go_ret2
      rw [HR.out]
      exact ⟨rfl, H4.out⟩
    | true =>
      rw [hfit, if_pos rfl] at hA4
      have hr := HRES.out
      rw [hfit, if_neg (by simp), HXL.out] at hr
      have HR := Lib.hid hr
      have H4 := Lib.hid hA4
      clear hA4 hr HRES WR hfit d3 z3 hS2
      go_wp2_with fail
      go_ret2
      rw [HR.out]
      exact ⟨rfl, H4.out⟩
  · have hcut : cutTo D.short b = b := by unfold cutTo; rw [if_neg hp]
    have hse : (if D.short ≠ -1 ∧ D.short < b.length then (61 : Int) else 0) = 0 := if_neg hp
    have hres := HRES.out
    rw [hcut, hse] at hres
    have HRES := Lib.hid hres
    have WR := Lib.hid (fun W (hD : DiskU y { D with short := -1, fuse := burnt D.fuse } (used D.S) W) (hSW : Bys W A b) => write_any A b b.length c n W hD hok2 hN (by omega) hSW rfl hA (by omega))
    obtain ⟨s, hs⟩ : ∃ s, s = D.short := ⟨_, rfl⟩
    rw [← hs] at hp hsh
    have HSX := Lib.hid hs.symm
    clear hres hcut hse hs hok1 hok2 hA
    by_cases h1 : s = -1
    · subst h1
      clear hp hsh
      go_enter Try.func16, Try.ntmps16
      go_wp2_with fail
      with_reducible refine Calls.mono C1.out ?_
      rintro e w1 ⟨rfl, rfl⟩
      go_wp2_with fail
      with_reducible refine Calls.mono C2.out ?_
      rintro e w1 ⟨rfl, hB1⟩
      go_wp2_with fail
      with_reducible refine Calls.mono (C3.out _ hB1) ?_
      rintro e w2 ⟨rfl, hD2, ho2⟩
      have d3 := hD2.cells.2.2.2.1
      rw [show ({ D with fuse := burnt D.fuse } : Dk).short = -1 from HSX.out] at d3
      have z3 := hD2.thaw 3
      have hD3 := onShort hD2 (-1)
      have hO1 : Only (Foot y D.S) w w1 := Only.of_below hB1
      have hO2 : Only (Foot y D.S) w w2 := hO1.trans ho2 fun i h => .inl h
      have hO3 : Only (Foot y D.S) w (w2.setCell ⟨y.p, 3, none⟩ (.int .i64 (-1))) := hO2.setCell (.inl foot_p) _
      have hS2 := hS.only hO3 hoff
      have HO3 := Lib.hid hO3
      have HD3 := Lib.hid hD3
      clear hD2 hD3 ho2 hB1 hS hO1 hO2 hO3
      go_wp2_with fail
      with_reducible refine Calls.mono (WR.out _ HD3.out hS2) ?_
      rintro e w4 ⟨rfl, hA4⟩
      have hA4 := After.ahead hA4 HO3.out
      cases hfit : fits D.S D.room n b with
      | false =>
        rw [hfit, if_neg (by simp)] at hA4
        have hr := HRES.out
        rw [hfit, if_pos rfl] at hr
        have HR := Lib.hid hr
        have H4 := Lib.hid hA4
        clear hA4 hr HRES WR hfit d3 z3 hS2
        go_wp2_with fail
        go_ret2
        rw [HR.out]
        exact ⟨rfl, H4.out⟩
      | true =>
        rw [hfit, if_pos rfl] at hA4
        have hr := HRES.out
        rw [hfit, if_neg (by simp)] at hr
        have HR := Lib.hid hr
        have H4 := Lib.hid hA4
        clear hA4 hr HRES WR hfit d3 z3 hS2
        go_wp2_with fail
        go_ret2
        rw [HR.out]
        exact ⟨rfl, H4.out⟩
    · have b1 : (s != -1) = true := by rw [bne_iff_ne]; exact h1
      have b2 : (b.length : Int) ≤ s := by omega
      have b3 : decide (s < (b.length : Int)) = false := by simp; omega
      clear hp hsh h1
      go_enter Try.func16, Try.ntmps16
      go_wp2_with fail
      with_reducible refine Calls.mono C1.out ?_
      rintro e w1 ⟨rfl, rfl⟩
      go_wp2_with fail
      with_reducible refine Calls.mono C2.out ?_
      rintro e w1 ⟨rfl, hB1⟩
      go_wp2_with fail
      with_reducible refine Calls.mono (C3.out _ hB1) ?_
      rintro e w2 ⟨rfl, hD2, ho2⟩
      have d3 := hD2.cells.2.2.2.1
      rw [show ({ D with fuse := burnt D.fuse } : Dk).short = s from HSX.out] at d3
      have z3 := hD2.thaw 3
      have hD3 := onShort hD2 (-1)
      have hO1 : Only (Foot y D.S) w w1 := Only.of_below hB1
      have hO2 : Only (Foot y D.S) w w2 := hO1.trans ho2 fun i h => .inl h
      have hO3 : Only (Foot y D.S) w (w2.setCell ⟨y.p, 3, none⟩ (.int .i64 (-1))) := hO2.setCell (.inl foot_p) _
      have hS2 := hS.only hO3 hoff
      have HO3 := Lib.hid hO3
      have HD3 := Lib.hid hD3
      clear hD2 hD3 ho2 hB1 hS hO1 hO2 hO3
      go_wp2_with fail
      with_reducible refine Calls.mono (WR.out _ HD3.out hS2) ?_
      rintro e w4 ⟨rfl, hA4⟩
      have hA4 := After.ahead hA4 HO3.out
      cases hfit : fits D.S D.room n b with
      | false =>
        rw [hfit, if_neg (by simp)] at hA4
        have hr := HRES.out
        rw [hfit, if_pos rfl] at hr
        have HR := Lib.hid hr
        have H4 := Lib.hid hA4
        clear hA4 hr HRES WR hfit d3 z3 hS2
        go_wp2_with fail
        go_ret2
        rw [HR.out]
        exact ⟨rfl, H4.out⟩
      | true =>
        rw [hfit, if_pos rfl] at hA4
        have hr := HRES.out
        rw [hfit, if_neg (by simp)] at hr
        have HR := Lib.hid hr
        have H4 := Lib.hid hA4
        clear hA4 hr HRES WR hfit d3 z3 hS2
        go_wp2_with fail
        go_ret2
        rw [HR.out]
        exact ⟨rfl, H4.out⟩
end Go.Proofs.Ytcnnifogppabdaa
