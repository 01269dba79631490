/-
  One disk over a base: the contracts without its layout.
-/
import Derived.Test.YtcnnifogppabdaaFlI
namespace Go.Proofs.Ytcnnifogppabdaa
open Go.RowKit
set_option linter.unusedVariables false
set_option maxRecDepth 100000

theorem appendD_ok {D : Dk} (h : D.Ok) (n b : Bs) : (appendD D n b).2.2.Ok := by
  unfold appendD
  split
  · exact h
  split
  · exact h
  · rename_i hf
    have hb := burnt_in h.fuse hf
    split
    · exact (h.fused _ hb).shorted (-1) (by omega)
    · rename_i hfit
      have hfit : fits D.S D.room n (cutTo D.short b) = true := by simpa using hfit
      have hf2 := hfit
      unfold fits at hf2
      simp only [Bool.and_eq_true, decide_eq_true_eq] at hf2
      refine ⟨put_uniq h.u n _, h.room, ?_, ?_, ?_, hb⟩
      · rw [used_put h.u]
        have := h.room
        show used D.S + _ ≤ _
        omega
      · intro f hfm
        have hfm : f ∈ put D.S n (cutTo D.short b) := hfm
        have hfd := find_mem (put_uniq h.u n (cutTo D.short b)) hfm
        rw [find_put h.u] at hfd
        by_cases e : f.n = n
        · rw [if_pos e] at hfd
          injection hfd with hfd
          cases ho : find D.S n with
          | none =>
            rw [ho] at hfd
            subst hfd
            have : oldLen D.S n = 0 := by unfold oldLen; rw [ho]
            exact ⟨by show (cutTo D.short b).length ≤ _; omega, Nat.zero_le _⟩
          | some g =>
            rw [ho] at hfd
            subst hfd
            have : oldLen D.S n = g.d.length := by unfold oldLen; rw [ho]
            have hg := h.len g (find_some ho).1
            exact ⟨by show (g.d ++ cutTo D.short b).length ≤ _; rw [List.length_append]; omega, by show g.s ≤ (g.d ++ cutTo D.short b).length; rw [List.length_append]; omega⟩
        · rw [if_neg e] at hfd
          exact h.len f (find_some hfd).1
      · exact ⟨by show (-1 : Int) ≤ -1; omega, by show (-1 : Int) ≤ 9223372036854775807; omega⟩
theorem syncD_ok {D : Dk} (h : D.Ok) (n : Bs) : (syncD D n).2.Ok := by
  unfold syncD
  split
  · exact h
  · rename_i hf
    have hb := burnt_in h.fuse hf
    cases ho : find D.S n with
    | none => exact h.fused _ hb
    | some g =>
      obtain ⟨hgS, hgn⟩ := find_some ho
      subst hgn
      have hus : used (upd D.S ⟨g.n, g.d, g.d.length⟩) = used D.S := by
        have := used_upd (x := ⟨g.n, g.d, g.d.length⟩) h.u ho
        simp at this
        exact this
      refine ⟨upd_uniq h.u, h.room, by show used (upd _ _) ≤ _; rw [hus]; exact h.used, ?_, h.short, hb⟩
      intro f hfm
      rcases (mem_upd h.u (x := ⟨g.n, g.d, g.d.length⟩) (by rw [show (⟨g.n, g.d, g.d.length⟩ : Fil).n = g.n from rfl, ho]; rfl)).1 hfm with rfl | ⟨hf, _⟩
      · exact ⟨(h.len g hgS).1, Nat.le_refl _⟩
      · exact h.len f hf

def DK (P B N : Nat) (D : Dk) (w : World) : Prop := D.Ok ∧ B ≤ w.heap.size ∧ ∃ y : Ly, y.p = P ∧ DiskU y D (used D.S) w ∧ (∀ k, Foot y D.S k → B ≤ k) ∧ y.N ≤ N
theorem DK.below {P B N : Nat} {D : Dk} {w w' : World} (h : DK P B N D w) (hB : Below w.heap.size w w') : DK P B N D w' := by
  obtain ⟨hok, hs, y, hp, hD, hF, hN⟩ := h
  exact ⟨hok, Nat.le_trans hs hB.size, y, hp, hD.below hB, hF, hN⟩
theorem DK.alloc {P B N : Nat} {D : Dk} {w : World} (h : DK P B N D w) (o : Obj) : DK P B N D (w.alloc o) := h.below (Below.alloc (Below.refl _ _) (Nat.le_refl _) _)
theorem DK.drew {P B N : Nat} {D : Dk} {w : World} (h : DK P B N D w) : DK P B N D w.drew := h.below (Below.drew (Below.refl _ _))
theorem DK.drewN {P B N : Nat} {D : Dk} {w : World} (h : DK P B N D w) (n : Nat) : DK P B N D (w.drewN n) := h.below (below_drewN (Below.refl _ _) n)
theorem DK.mono {P B N N' : Nat} {D : Dk} {w : World} (h : DK P B N D w) (hN' : N ≤ N') : DK P B N' D w := by
  obtain ⟨hok, hs, y, hp, hD, hF, hN⟩ := h
  exact ⟨hok, hs, y, hp, hD, hF, by omega⟩
theorem After.dk {P B N : Nat} {y : Ly} {D D' : Dk} {w w' : World} (h : After y D.S D' w w') (hok : D'.Ok) (hp : y.p = P) (hF : ∀ k, Foot y D.S k → B ≤ k) (hs : B ≤ w.heap.size) (hN : y.N ≤ N) : DK P B (N + 1) D' w' ∧ Below B w w' := by
  obtain ⟨y', h1, h2, h3, h4, h5⟩ := h
  refine ⟨⟨hok, Nat.le_trans hs h3.size, y', h1.trans hp, h2, fun k hk => ?_, by omega⟩, Only.below (Below.refl _ _) hs h3 hF⟩
  rcases h4 k hk with h | h
  · exact hF k h
  · omega
theorem New_dk (n : Nat) (w : World) (hn : n ≤ 1099511627776) : Calls Try.prog 10 #[.int .i64 n] w fun e w' => (∃ P, e = .returned (.tuple #[.pointer (some ⟨P, 0, none⟩), .int .i64 0]) ∧ DK P w.heap.size 0 (newD n) w') ∧ Below w.heap.size w w' := by
  refine (New_yes n w hn).mono ?_
  rintro e w' ⟨⟨y, rfl, hD, hN, hF⟩, hB⟩
  exact ⟨⟨y.p, rfl, newD_ok hn, hB.size, y, rfl, hD, hF, by omega⟩, hB⟩
section
variable {P B N : Nat} {D : Dk}
theorem Append_dk (A : Option Addr) (b : Bs) (m c : Nat) (n : Bs) (w : World) (h : DK P B N D w) (hN : N < maxLen) (hm : m = b.length) (hnl : n.length ≤ 140737488355328) (hS : Bys w A b) (hc : b.length ≤ c) (hcm : c ≤ 9223372036854775807) (hA : A = none → c = 0) (hbl : b.length ≤ 140737488351232) (hoff : 0 < b.length → ∀ p, A = some p → p.block < B) :
    Calls Try.prog 16 #[.pointer (some ⟨P, 0, none⟩), .string (bs n), .slice A m c] w fun e w' => e = .returned (.tuple #[.int .i64 (appendD D n b).1, .int .i64 (appendD D n b).2.1]) ∧ DK P B (N + 1) (appendD D n b).2.2 w' ∧ Below B w w' := by
  obtain ⟨hok, hs, y, rfl, hD, hF, hyN⟩ := h
  refine (Append_any A b m c n w hD hok (by omega) hm hnl hS hc hcm hA hbl (fun hn p hp hk => by have := hF _ hk; have := hoff hn p hp; omega)).mono ?_
  rintro e w' ⟨rfl, hA⟩
  exact ⟨rfl, hA.dk (appendD_ok hok n b) rfl hF hs hyN⟩
/-- Bytes in a block that has just been laid. -/
theorem Append_dn (b : Bs) (m c : Nat) (n : Bs) (w : World) (o : Obj) (h : DK P B N D w) (hN : N < maxLen) (hm : m = b.length) (hnl : n.length ≤ 140737488355328) (hS : Bys (w.alloc o) (some ⟨w.heap.size, 0, none⟩) b) (hc : b.length ≤ c) (hcm : c ≤ 9223372036854775807) (hbl : b.length ≤ 140737488351232) :
    Calls Try.prog 16 #[.pointer (some ⟨P, 0, none⟩), .string (bs n), .slice (some ⟨w.heap.size, 0, none⟩) m c] (w.alloc o) fun e w' => e = .returned (.tuple #[.int .i64 (appendD D n b).1, .int .i64 (appendD D n b).2.1]) ∧ DK P B (N + 1) (appendD D n b).2.2 w' ∧ Below B (w.alloc o) w' := by
  obtain ⟨hok, hs, y, rfl, hD, hF, hyN⟩ := h
  refine (Append_any (some ⟨w.heap.size, 0, none⟩) b m c n _ (hD.alloc o) hok (by omega) hm hnl hS hc hcm (fun e => by cases e) hbl (fun _ p hp hk => by injection hp with hp; subst hp; have := hD.lt hk; simp at this)).mono ?_
  rintro e w' ⟨rfl, hA⟩
  exact ⟨rfl, hA.dk (appendD_ok hok n b) rfl hF (by simp; omega) hyN⟩
theorem Sync_dk (n : Bs) (w : World) (h : DK P B N D w) (hnl : n.length ≤ 140737488355328) :
    Calls Try.prog 17 #[.pointer (some ⟨P, 0, none⟩), .string (bs n)] w fun e w' => e = .returned (.int .i64 (syncD D n).1) ∧ DK P B (N + 1) (syncD D n).2 w' ∧ Below B w w' := by
  obtain ⟨hok, hs, y, rfl, hD, hF, hyN⟩ := h
  refine (Sync_any n w hD hok hnl).mono ?_
  rintro e w' ⟨rfl, hA⟩
  exact ⟨rfl, hA.dk (syncD_ok hok n) rfl hF hs hyN⟩
theorem Read_dk {f : Fil} (n : Bs) (w : World) (h : DK P B N D w) (hfd : find D.S n = some f) (hnl : n.length ≤ 140737488355328) :
    Calls Try.prog 20 #[.pointer (some ⟨P, 0, none⟩), .string (bs n)] w fun e w' => ReadP f.d w e w' ∧ Below w.heap.size w w' := by
  obtain ⟨hok, hs, y, rfl, hD, hF, hyN⟩ := h
  exact Read_yes n w hD hfd (hok.len f (find_some hfd).1).1 hnl
theorem Synced_dk (n : Bs) (w : World) (h : DK P B N D w) (hnl : n.length ≤ 140737488355328) :
    Calls Try.prog 22 #[.pointer (some ⟨P, 0, none⟩), .string (bs n)] w fun e w' => e = .returned (.int .i64 (match find D.S n with | some f => (f.s : Int) | none => 0)) ∧ w = w' := by
  obtain ⟨hok, hs, y, rfl, hD, hF, hyN⟩ := h
  exact Synced_any n w hD hnl
theorem Used_dk (w : World) (h : DK P B N D w) : Calls Try.prog 23 #[.pointer (some ⟨P, 0, none⟩)] w fun e w' => e = .returned (.int .i64 (used D.S)) ∧ w = w' := by
  obtain ⟨hok, hs, y, rfl, hD, hF, hyN⟩ := h
  exact Used_any w hD
theorem Fuse_dk (n : Int) (w : World) (h : DK P B N D w) (h0 : 0 ≤ n) (h1 : n ≤ 9223372036854775807) :
    Calls Try.prog 24 #[.pointer (some ⟨P, 0, none⟩), .int .i64 n] w fun e w' => e = .returned (.int .i64 0) ∧ DK P B N { D with fuse := n } w' ∧ Below B w w' := by
  obtain ⟨hok, hs, y, rfl, hD, hF, hyN⟩ := h
  refine (Fuse_any n w hD).mono ?_
  rintro e w' ⟨rfl, hD', ho⟩
  rw [if_neg (by omega)] at hD'
  refine ⟨by rw [argE, if_neg (by omega)], ⟨hok.fused n (by omega), Nat.le_trans hs ho.size, y, rfl, hD', hF, hyN⟩, Only.below (Below.refl _ _) hs ho hF⟩
theorem Short_dk (n : Int) (w : World) (h : DK P B N D w) (h0 : 0 ≤ n) (h1 : n ≤ 9223372036854775807) :
    Calls Try.prog 29 #[.pointer (some ⟨P, 0, none⟩), .int .i64 n] w fun e w' => e = .returned (.int .i64 0) ∧ DK P B N { D with short := n } w' ∧ Below B w w' := by
  obtain ⟨hok, hs, y, rfl, hD, hF, hyN⟩ := h
  refine (Short_any n w hD).mono ?_
  rintro e w' ⟨rfl, hD', ho⟩
  rw [if_neg (by omega)] at hD'
  refine ⟨by rw [argE, if_neg (by omega)], ⟨hok.shorted n (by omega), Nat.le_trans hs ho.size, y, rfl, hD', hF, hyN⟩, Only.below (Below.refl _ _) hs ho hF⟩
theorem Room_dk (n : Nat) (w : World) (h : DK P B N D w) (h1 : n ≤ 1099511627776) :
    Calls Try.prog 28 #[.pointer (some ⟨P, 0, none⟩), .int .i64 n] w fun e w' => e = .returned (.int .i64 0) ∧ DK P B N { D with room := n } w' ∧ Below B w w' := by
  obtain ⟨hok, hs, y, rfl, hD, hF, hyN⟩ := h
  have hc : canR n = true := by simp [canR]; omega
  refine (Room_any n w hD).mono ?_
  rintro e w' ⟨rfl, hD', ho⟩
  rw [if_pos hc, Int.toNat_natCast] at hD'
  refine ⟨by rw [if_pos hc], ⟨⟨hok.u, h1, hok.used, hok.len, hok.short, hok.fuse⟩, Nat.le_trans hs ho.size, y, rfl, hD', hF, hyN⟩, Only.below (Below.refl _ _) hs ho hF⟩
end
end Go.Proofs.Ytcnnifogppabdaa
