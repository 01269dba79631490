/-
  The document's First, texts, options, four (layer 3).
-/
import Derived.Test.YtgfahkgnblkhaaaDoorRdL
import Derived.Test.YtgfahkgnblkhaaaDoorRdW
import Derived.Test.YtgfahkgnblkhaaaDoorNmRa
import Derived.Deep.QuietTactic
import Derived.BigQuiet
import Derived.IntWalk
namespace Go.Proofs.YtgfahkgnblkhaaaDoor
open Go.RowKit
set_option linter.unusedVariables false
set_option maxRecDepth 100000

/-- What First answers. -/
def FirstPost (w : World) (l : Bs) (e : Ending) (w' : World) : Prop :=
  (nameLen l = none ∧ e = .returned (.tuple #[.string (bs []), .slice none 0 0, .bool false]) ∧ Below w.heap.size w w') ∨
  (∃ k A c, nameLen l = some k ∧ e = .returned (.tuple #[.string (bs (l.take k)), .slice A (l.drop k).length c, .bool true]) ∧ Bys w' A (l.drop k) ∧ (l.drop k).length ≤ c ∧ c ≤ 9223372036854775807 ∧ Below w.heap.size w w')

set_option maxHeartbeats 2000000 in
set_option maxRecDepth 100000 in
theorem rFirst_any (A : Option Addr) (l : Bs) (c : Nat) (w : World) (hS : Bys w A l) (hc : l.length ≤ c) (hcm : c ≤ 9223372036854775807) : Calls Tryd.prog 101 #[.slice A l.length c] w (FirstPost w l) := by
  go_enter Tryd.func101, Tryd.ntmps101
  go_wp2_with fail
  go_loop [5] (fun v => ∃ k : Nat, v = .int .i64 k ∧ 1 ≤ k ∧ k ≤ 256 ∧ Hid (∀ j, j < k → j ≤ l.length → nameLen l ≠ some j)) (fun v => 257 - (intOf v).toNat)
  case atStart => exact ⟨1, rfl, by omega, by omega, Lib.hid (fun j hj _ h => by have := nameLen_le h; omega)⟩
  case round =>
    obtain ⟨k, rfl, hk1, hk2, hN⟩ := hrel
    by_cases hin : k ≤ l.length ∧ k ≤ 255
    · obtain ⟨hl, h255⟩ := hin
      have t1 : (k : Int) ≤ (l.length : Int) := by omega
      have t2 : (k : Int) ≤ 255 := by omega
      have hpre := slice_pre A l c k k hl hc rfl
      have hstr := fun n => string_bys A (l.take k) c (w.drewN n) ((hS.pre k).on (below_drewN (Below.refl _ _) n))
      have hstr0 := string_bys A (l.take k) c w (hS.pre k)
      obtain ⟨A', hrun, hS', hc'⟩ := slice_bys A l c k k w hS hl hc rfl
      have RC := Lib.hid (fun W => rCan_any (l.take k) W)
      have HK := Lib.hid (can_take hl)
      rw [show (l.take k).length = k by rw [List.length_take]; omega] at hpre hstr hstr0
      obtain ⟨x, hx⟩ : ∃ x, x = l.take k := ⟨_, rfl⟩
      obtain ⟨y, hy⟩ : ∃ y, y = l.drop k := ⟨_, rfl⟩
      obtain ⟨c', hce⟩ : ∃ c', c' = c - k := ⟨_, rfl⟩
      rw [← hx] at hstr hstr0 RC HK
      rw [← hy, ← hce] at hrun hc'
      rw [← hy] at hS'
      have HX := Lib.hid hx
      have HY := Lib.hid hy
      have hcm' : c' ≤ 9223372036854775807 := by omega
      clear hx hy hce
      cases hcan : can x with
      | true =>
        have hn := HK.out.1 hcan
        have HN := Lib.hid hn
        rw [hcan] at RC
        clear hcan hn HK
        go_wp2_with fail
        refine (RC.out _).mono ?_
        rintro e w1 ⟨rfl, rfl⟩
        go_wp2_with fail
        go_quiet (fail)
        go_wp2_with fail
        go_ret3
        exact .inr ⟨k, A', c', HN.out, by rw [← HX.out, ← HY.out]; rfl, by rw [← HY.out]; exact hS', by rw [← HY.out]; exact hc', hcm', below_drewN (Below.refl _ _) _⟩
      | false =>
        have hno : nameLen l ≠ some k := fun h => by rw [HK.out.2 h] at hcan; cases hcan
        have hN2 := Lib.hid (fun j hj hjl => by
          rcases Nat.lt_or_ge j k with h | h
          · exact hN.out j h hjl
          · rw [show j = k by omega]; exact hno : ∀ j, j < k + 1 → j ≤ l.length → nameLen l ≠ some j)
        rw [hcan] at RC
        clear hcan HK hno hN
        go_wp2_with fail
        refine (RC.out _).mono ?_
        rintro e w1 ⟨rfl, rfl⟩
        go_wp2_with fail
        go_round
        case rel => exact ⟨k + 1, by go_num, by omega, by omega, hN2⟩
        case measure => simp [intOf]; omega
    · have hnone : nameLen l = none := by
        cases h : nameLen l with
        | none => rfl
        | some j =>
          have := nameLen_le h
          exact absurd h (hN.out j (by omega) (by omega))
      have HN := Lib.hid hnone
      clear hnone hN
      by_cases h1 : (k : Int) ≤ (l.length : Int)
      · have h2 : ¬ (k : Int) ≤ 255 := by omega
        go_wp2_with fail
        go_ret3
        exact .inl ⟨HN.out, rfl, Below.refl _ _⟩
      · go_wp2_with fail
        go_ret3
        exact .inl ⟨HN.out, rfl, Below.refl _ _⟩

theorem txs_cons (k : UInt8) (r : Bs) : txs (k :: r) = if r.length < k.toNat then false else txs (r.drop k.toNat) := by rw [txs]
theorem txs_nil : txs [] = true := by rw [txs]

set_option maxHeartbeats 2000000 in
set_option maxRecDepth 100000 in
theorem rtexts_any (A : Option Addr) (l : Bs) (c : Nat) (w : World) (hS : Bys w A l) (hc : l.length ≤ c) (hcm : c ≤ 9223372036854775807) (hl : l.length ≤ 65535) : Calls Tryd.prog 75 #[.slice A l.length c] w fun e w' => e = .returned (.bool (texts l)) ∧ w = w' := by
  cases l with
  | nil =>
    go_enter Tryd.func75, Tryd.ntmps75
    go_wp2_with fail
    go_ret
    exact ⟨rfl, rfl⟩
  | cons b0 r0 =>
    have ht : texts (b0 :: r0) = txs (b0 :: r0) := by unfold texts; simp
    rw [ht]
    have hz : (((b0 :: r0).length : Int) == 0) = false := by rw [beq_eq_false_iff_ne]; simp; omega
    clear ht
    generalize b0 :: r0 = l at *
    go_enter Tryd.func75, Tryd.ntmps75
    go_wp2_with fail
    go_loop [0] (fun v => ∃ (B : Option Addr) (m : Bs) (d : Nat), v = .slice B m.length d ∧ Bys w B m ∧ m.length ≤ d ∧ m.length ≤ 65535 ∧ Hid (txs l = txs m)) (fun v => match v with | .slice _ n _ => n | _ => 0)
    case atStart => exact ⟨A, l, c, rfl, hS, hc, hl, Lib.hid rfl⟩
    case round =>
      clear hz hS hc hl hcm
      obtain ⟨B, m, d, rfl, hS, hc, hl, hT⟩ := hrel
      cases m with
      | nil =>
        have HT := Lib.hid (hT.out.trans txs_nil)
        clear hT
        go_wp2_with fail
        go_ret
        exact ⟨by rw [HT.out]; rfl, rfl⟩
      | cons k r =>
        have hT2 := hT.out
        rw [txs_cons] at hT2
        obtain ⟨g, off, rfl, hcs⟩ := hS (by simp)
        have h0 : w.cell? ⟨g, off, none⟩ = some (.int .u8 k.toNat) := hcs 0 (by simp)
        have hkt := k.toNat_lt
        have hlen : (k :: r).length = r.length + 1 := rfl
        have hpos : (0 : Int) < ((k :: r).length : Int) := by omega
        by_cases hs : r.length < k.toNat
        · rw [if_pos hs] at hT2
          have HT := Lib.hid hT2
          have h1 : ((k :: r).length : Int) < 1 + (k.toNat : Int) := by omega
          clear hT hT2 hcs hlen hs
          generalize k.toNat = m at *
          generalize (k :: r).length = n at *
          go_wp2_with fail
          go_ret
          exact ⟨by rw [HT.out]; rfl, rfl⟩
        · rw [if_neg hs] at hT2
          have HT := Lib.hid hT2
          have h1 : ¬ ((k :: r).length : Int) < 1 + (k.toNat : Int) := by omega
          obtain ⟨B', hrun, hS', hc'⟩ := slice_bys (some ⟨g, off, none⟩) (k :: r) d (1 + k.toNat) (1 + (k.toNat : Int)) w hS (by omega) hc (by omega)
          have hd : (k :: r).drop (1 + k.toNat) = r.drop k.toNat := by rw [Nat.add_comm]; rfl
          rw [hd] at hrun hS' hc'
          have hdl : (r.drop k.toNat).length = r.length - k.toNat := List.length_drop
          have HL := Lib.hid hdl
          have hle2 : (r.drop k.toNat).length ≤ 65535 := by omega
          have hsh : (r.drop k.toNat).length < (k :: r).length := by omega
          clear hT hT2 hcs hS hd hdl hs hc hlen
          generalize r.drop k.toNat = q at *
          generalize d - (1 + k.toNat) = d' at *
          generalize hkm : k.toNat = m at *
          clear hkm
          generalize (k :: r).length = n at *
          go_wp2_with fail
          go_round
          case rel => exact ⟨B', q, d', rfl, hS', hc', hle2, HT⟩
          case measure => simp; omega

theorem opts_nil : opts [] = true := by rw [opts]
theorem opts_short {b : Bs} (h : b ≠ []) (h4 : b.length < 4) : opts b = false := by
  match b, h, h4 with
  | [_], _, _ => simp [opts]
  | [_, _], _, _ => simp [opts]
  | [_, _, _], _, _ => simp [opts]
  | _ :: _ :: _ :: _ :: _, _, h4 => simp at h4; omega
theorem opts_cons (a b h l : UInt8) (r : Bs) : opts (a :: b :: h :: l :: r) = if r.length < h.toNat * 256 + l.toNat then false else opts (r.drop (h.toNat * 256 + l.toNat)) := by rw [opts]

set_option maxHeartbeats 2000000 in
set_option maxRecDepth 100000 in
theorem roptions_any (A : Option Addr) (l : Bs) (c : Nat) (w : World) (hS : Bys w A l) (hc : l.length ≤ c) (hcm : c ≤ 9223372036854775807) (hl : l.length ≤ 65535) : Calls Tryd.prog 76 #[.slice A l.length c] w fun e w' => e = .returned (.bool (opts l)) ∧ Below w.heap.size w w' := by
  go_enter Tryd.func76, Tryd.ntmps76
  go_wp2_with fail
  go_loopw [0] (fun v wr => ∃ (B : Option Addr) (m : Bs) (d n : Nat), wr = w.drewN n ∧ v = .slice B m.length d ∧ Bys w B m ∧ m.length ≤ d ∧ m.length ≤ 65535 ∧ Hid (opts l = opts m)) (fun v _ => match v with | .slice _ n _ => n | _ => 0)
  case atStart => exact ⟨A, l, c, 0, rfl, rfl, hS, hc, hl, Lib.hid rfl⟩
  case round =>
    clear hS hc hl hcm
    obtain ⟨B, m, d, n, rfl, rfl, hS, hc, hl, hT⟩ := hrel
    by_cases hnil : m = []
    · subst hnil
      have HT := Lib.hid (hT.out.trans opts_nil)
      clear hT
      go_wp2_with fail
      go_ret
      exact ⟨by rw [HT.out]; rfl, below_drewN (Below.refl _ _) _⟩
    · have hpos : (0 : Int) < (m.length : Int) := by have := List.length_pos_iff.2 hnil; omega
      by_cases h4 : m.length < 4
      · have HT := Lib.hid (hT.out.trans (opts_short hnil h4))
        have h4' : (m.length : Int) < 4 := by omega
        clear hT hnil h4
        go_wp2_with fail
        go_ret
        exact ⟨by rw [HT.out]; rfl, below_drewN (Below.refl _ _) _⟩
      · match m, hnil, h4 with
        | [], h, _ => exact absurd rfl h
        | [_], _, h => exact absurd (by simp) h
        | [_, _], _, h => exact absurd (by simp) h
        | [_, _, _], _, h => exact absurd (by simp) h
        | a :: b :: hh :: ll :: r, _, _ =>
          have hT2 := hT.out
          rw [opts_cons] at hT2
          obtain ⟨g, off, rfl, hcs⟩ := hS (by simp)
          have y2 : w.cell? ⟨g, off + 2, none⟩ = some (.int .u8 hh.toNat) := hcs 2 (by simp)
          have y3 : w.cell? ⟨g, off + 3, none⟩ = some (.int .u8 ll.toNat) := hcs 3 (by simp)
          have t1 := hh.toNat_lt
          have t2 := ll.toNat_lt
          have hlen : (a :: b :: hh :: ll :: r).length = r.length + 4 := rfl
          have h4' : ¬ ((a :: b :: hh :: ll :: r).length : Int) < 4 := by omega
          have p2 : (2 : Int) < ((a :: b :: hh :: ll :: r).length : Int) := by omega
          have p3 : (3 : Int) < ((a :: b :: hh :: ll :: r).length : Int) := by omega
          obtain ⟨K, hK⟩ : ∃ K, K = hh.toNat * 256 + ll.toNat := ⟨_, rfl⟩
          have hKi : (K : Int) = (hh.toNat : Int) * 256 + (ll.toNat : Int) := by omega
          rw [← hK] at hT2
          have W1 : Hid (IntKind.i64.wrap ((hh.toNat : Int) * 256) = (hh.toNat : Int) * 256 ∧ IntKind.i64.wrap ((hh.toNat : Int) * 256 + (ll.toNat : Int)) = (hh.toNat : Int) * 256 + (ll.toNat : Int) ∧ IntKind.i64.wrap (hh.toNat : Int) = (hh.toNat : Int) ∧ IntKind.i64.wrap (ll.toNat : Int) = (ll.toNat : Int)) :=
            Lib.hid ⟨IntWalk.i64_in _ (by omega), IntWalk.i64_in _ (by omega), IntWalk.i64_in _ (by omega), IntWalk.i64_in _ (by omega)⟩
          have HK := Lib.hid hKi
          have hKb : K ≤ 65535 := by omega
          by_cases hs : r.length < K
          · rw [if_pos hs] at hT2
            have HT := Lib.hid hT2
            have h1 : ((a :: b :: hh :: ll :: r).length : Int) < 4 + (K : Int) := by omega
            clear hT hT2 hcs hlen hs hK hKi
            generalize (a :: b :: hh :: ll :: r).length = z at *
            generalize hh.toNat = m1 at *
            generalize ll.toNat = m2 at *
            go_wp2_with fail
            obtain ⟨q1, q2, q3, q4⟩ := W1.out
            go_quiet (fail)
            clear q1 q2 q3 q4 W1
            rw [← HK.out]
            go_wp2_with fail
            go_ret
            exact ⟨by rw [HT.out]; rfl, below_drewN (Below.refl _ _) _⟩
          · rw [if_neg hs] at hT2
            have HT := Lib.hid hT2
            have h1 : ¬ ((a :: b :: hh :: ll :: r).length : Int) < 4 + (K : Int) := by omega
            obtain ⟨B', hrun, hS', hc'⟩ := slice_bys (some ⟨g, off, none⟩) (a :: b :: hh :: ll :: r) d (4 + K) (4 + (K : Int)) w hS (by omega) hc (by omega)
            have hd : (a :: b :: hh :: ll :: r).drop (4 + K) = r.drop K := by rw [Nat.add_comm]; rfl
            rw [hd] at hrun hS' hc'
            have hdl : (r.drop K).length = r.length - K := List.length_drop
            have hle2 : (r.drop K).length ≤ 65535 := by omega
            have hsh : (r.drop K).length < (a :: b :: hh :: ll :: r).length := by omega
            clear hT hT2 hcs hS hd hdl hs hc hlen hK hKi
            generalize r.drop K = q at *
            generalize d - (4 + K) = d' at *
            generalize (a :: b :: hh :: ll :: r).length = z at *
            generalize hh.toNat = m1 at *
            generalize ll.toNat = m2 at *
            go_wp2_with fail
            obtain ⟨q1, q2, q3, q4⟩ := W1.out
            go_quiet (fail)
            clear q1 q2 q3 q4 W1
            rw [← HK.out]
            go_wp2_with fail
            go_roundw
            case rel => exact ⟨B', q, d', _, rfl, rfl, hS', hc', hle2, HT⟩
            case measure => simp; omega

set_option maxHeartbeats 2000000 in
set_option maxRecDepth 100000 in
theorem rfour_any (A : Option Addr) (l : Bs) (n c : Nat) (w : World) (hS : Bys w A l) (hn : n = l.length) (h4 : 4 ≤ l.length) : Calls Tryd.prog 102 #[.slice A n c] w fun e w' => e = .returned (.int .i64 (four l)) ∧ ∃ k, w' = w.drewN k := by
  obtain ⟨g, off, rfl, hcs⟩ := hS (by omega)
  have y0 := hcs 0 (by omega)
  have y1 := hcs 1 (by omega)
  have y2 := hcs 2 (by omega)
  have y3 := hcs 3 (by omega)
  have t0 := (l[0]).toNat_lt
  have t1 := (l[1]).toNat_lt
  have t2 := (l[2]).toNat_lt
  have t3 := (l[3]).toNat_lt
  have hf : four l = (((l[0]).toNat * 256 + (l[1]).toNat) * 256 + (l[2]).toNat) * 256 + (l[3]).toNat := by
    unfold four
    simp [List.getD_eq_getElem?_getD, List.getElem?_eq_getElem (show 0 < l.length by omega), List.getElem?_eq_getElem (show 1 < l.length by omega), List.getElem?_eq_getElem (show 2 < l.length by omega), List.getElem?_eq_getElem (show 3 < l.length by omega)]
  rw [Nat.add_zero] at y0
  generalize (l[0]).toNat = a0 at *
  generalize (l[1]).toNat = a1 at *
  generalize (l[2]).toNat = a2 at *
  generalize (l[3]).toNat = a3 at *
  have hfi : (four l : Int) = (((a0 : Int) * 256 + (a1 : Int)) * 256 + (a2 : Int)) * 256 + (a3 : Int) := by omega
  have HF := Lib.hid hfi
  have n0 : (0 : Int) < (n : Int) := by omega
  have n1 : (1 : Int) < (n : Int) := by omega
  have n2 : (2 : Int) < (n : Int) := by omega
  have n3 : (3 : Int) < (n : Int) := by omega
  have q1 : IntKind.i64.wrap (a0 : Int) = (a0 : Int) := IntWalk.i64_in _ (by omega)
  have q2 : IntKind.i64.wrap (a1 : Int) = (a1 : Int) := IntWalk.i64_in _ (by omega)
  have q3 : IntKind.i64.wrap (a2 : Int) = (a2 : Int) := IntWalk.i64_in _ (by omega)
  have q4 : IntKind.i64.wrap (a3 : Int) = (a3 : Int) := IntWalk.i64_in _ (by omega)
  have q5 : IntKind.i64.wrap ((a0 : Int) * 256) = (a0 : Int) * 256 := IntWalk.i64_in _ (by omega)
  have q6 : IntKind.i64.wrap ((a0 : Int) * 256 + (a1 : Int)) = (a0 : Int) * 256 + (a1 : Int) := IntWalk.i64_in _ (by omega)
  have q7 : IntKind.i64.wrap (((a0 : Int) * 256 + (a1 : Int)) * 256) = ((a0 : Int) * 256 + (a1 : Int)) * 256 := IntWalk.i64_in _ (by omega)
  have q8 : IntKind.i64.wrap (((a0 : Int) * 256 + (a1 : Int)) * 256 + (a2 : Int)) = ((a0 : Int) * 256 + (a1 : Int)) * 256 + (a2 : Int) := IntWalk.i64_in _ (by omega)
  have q9 : IntKind.i64.wrap ((((a0 : Int) * 256 + (a1 : Int)) * 256 + (a2 : Int)) * 256) = (((a0 : Int) * 256 + (a1 : Int)) * 256 + (a2 : Int)) * 256 := IntWalk.i64_in _ (by omega)
  have q10 : IntKind.i64.wrap ((((a0 : Int) * 256 + (a1 : Int)) * 256 + (a2 : Int)) * 256 + (a3 : Int)) = (((a0 : Int) * 256 + (a1 : Int)) * 256 + (a2 : Int)) * 256 + (a3 : Int) := IntWalk.i64_in _ (by omega)
  clear hf hfi hn h4 hcs hS
  go_enter Tryd.func102, Tryd.ntmps102
  go_wp2_with fail
  go_quiet (fail)
  go_wp2_with fail
  go_ret
  exact ⟨by rw [HF.out]; rfl, _, rfl⟩
end Go.Proofs.YtgfahkgnblkhaaaDoor
