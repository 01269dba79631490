/-
  The landed firstTails: of each name the first tail, in a map.
-/
import Derived.Test.YtcnnifogppabdaaFlJ
import Derived.Deep.MidRow
import Derived.Maps.OwnOps
namespace Go.Proofs.Ytcnnifogppabdaa
open Go.RowKit Go.Maps
set_option linter.unusedVariables false
set_option maxRecDepth 100000

structure Tl where
  n : Bs
  k : Int
  t : Bool
def tlL (x : Tl) : List Value := [.string (bs x.n), .int .i64 x.k, .bool x.t]
def tl0 : Tl := ⟨[], 0, false⟩
def Tls (w : World) (A : Option Addr) (L : List Tl) : Prop := 0 < L.length → ∃ g off, A = some ⟨g, off, none⟩ ∧ ∀ j (h : j < L.length), w.rangeAt g (off + j * 3) (tlL L[j])
theorem Tls.on {w w1 : World} {A : Option Addr} {L : List Tl} (h : Tls w A L) (hB : Below w.heap.size w w1) : Tls w1 A L := fun hn => by
  obtain ⟨g, off, hA, hc⟩ := h hn
  exact ⟨g, off, hA, fun j hj i v hv => (World.cell?_of_block (hB.block g (World.block_lt_of_cell? w _ (hc j hj i v hv)))).trans (hc j hj i v hv)⟩
/-- The first tail of a name; the plain one. -/
def firstT (L : List Tl) (n : Bs) : Tl := match L.find? (fun x => x.n == n) with | some x => x | none => tl0
def hasT (L : List Tl) (n : Bs) : Bool := (L.find? (fun x => x.n == n)).isSome
/-- How a tail reads. -/
def tailE : Value → Option (DataW Unit × List MemPlace)
  | .agg cs => match cs.toList with
    | [.string s, .int .i64 k, .bool b] => some (.agg [.lit (.string s.data.toList), .lit (.int .i64 k), .lit (.bool b)], [])
    | _ => none
  | _ => none
def tD (x : Tl) : DataW Unit := .agg [.lit (.string x.n), .lit (.int .i64 x.k), .lit (.bool x.t)]
theorem tailE_mk (x : Tl) : tailE (.agg #[.string (bs x.n), .int .i64 x.k, .bool x.t]) = some (tD x, []) := by simp [tailE, tD]
theorem tailE_inv {v : Value} {x : Tl} {ps : List MemPlace} (h : tailE v = some (tD x, ps)) : v = .agg #[.string (bs x.n), .int .i64 x.k, .bool x.t] := by
  unfold tailE at h
  split at h
  · rename_i cs
    split at h
    · rename_i s k b hcs
      injection h with h
      injection h with h1 h2
      unfold tD at h1
      simp only [DataW.agg.injEq, List.cons.injEq, DataW.lit.injEq, Lit.string.injEq, Lit.int.injEq, Lit.bool.injEq, true_and, and_true] at h1
      obtain ⟨e1, e2, e3⟩ := h1
      subst e2 e3
      have hs : s = bs x.n := by rw [← e1]
      have : cs = #[.string s, .int .i64 x.k, .bool x.t] := by
        apply Array.toList_inj.1
        rw [hcs]
      rw [this, hs]
    · cases h
  · cases h
theorem info_tl : (Try.prog.info? 44).map (·.size) = some 3 := by kernel_rfl
theorem zeroTail (w : World) : (zeroValue 44).run Try.prog w = .ok (.agg #[.string ⟨#[]⟩, .int .i64 0, .bool false]) w := by kernel_rfl
/-- Block m is a map of the first tails. -/
def TMap (w : World) (m N : Nat) (L : List Tl) : Prop := ∃ M : DataW Unit, w.ownsMap Try.prog 9 tailE m N M ∧ (∀ n : Bs, M.atKey (.string n) (tD tl0) = tD (firstT L n)) ∧ (∀ n : Bs, Maps.has M (.string n) = hasT L n)
theorem TMap.lt {w : World} {m N : Nat} {L : List Tl} (h : TMap w m N L) : m < w.heap.size := by obtain ⟨M, hM, _⟩ := h; exact hM.lt
theorem TMap.block {w w1 : World} {m N : Nat} {L : List Tl} (h : TMap w m N L) (e : w1.heap[m]? = w.heap[m]?) : TMap w1 m N L := by
  obtain ⟨M, hM, r⟩ := h
  exact ⟨M, map_block hM e, r⟩
theorem TMap.below {w w1 : World} {m N : Nat} {L : List Tl} (h : TMap w m N L) (hB : Below w.heap.size w w1) : TMap w1 m N L := h.block (hB.block _ h.lt)
theorem TMap.new (w : World) : TMap (w.alloc (.map #[] 0)) w.heap.size 0 [] := ⟨.map [], World.ownsMap_made w Try.prog 9 tailE, fun n => rfl, fun n => rfl⟩
theorem TMap.look {w : World} {m N : Nat} {L : List Tl} (h : TMap w m N L) (n : Bs) (hn : n.length ≤ maxLen) :
    (Instr.lookup 84 (.map (some m)) (.string (bs n)) false).run Try.prog w = .ok (.agg #[.string (bs (firstT L n).n), .int .i64 (firstT L n).k, .bool (firstT L n).t]) w := by
  obtain ⟨M, hM, hat, _⟩ := h
  obtain ⟨v, ps, hrun, hv⟩ := hM.lookup strKey Try.underlying84 (zeroTail w) (zd := tD tl0) (zp := []) (tailE_mk tl0) (keyStr hn)
  rw [hat n] at hv
  rw [hrun, tailE_inv hv]
theorem TMap.look_ok {w : World} {m N : Nat} {L : List Tl} (h : TMap w m N L) (n : Bs) (hn : n.length ≤ maxLen) :
    (Instr.lookup 84 (.map (some m)) (.string (bs n)) true).run Try.prog w = .ok (.tuple #[.agg #[.string (bs (firstT L n).n), .int .i64 (firstT L n).k, .bool (firstT L n).t], .bool (hasT L n)]) w := by
  obtain ⟨M, hM, hat, hhas⟩ := h
  obtain ⟨v, ps, hrun, hv⟩ := hM.look_ok strKey Try.underlying84 (zeroTail w) (zd := tD tl0) (zp := []) (tailE_mk tl0) (keyStr hn)
  rw [hat n] at hv
  rw [hrun, tailE_inv hv, hhas n]
theorem firstT_snoc (L : List Tl) (x : Tl) (n : Bs) : firstT (L ++ [x]) n = if hasT L n then firstT L n else if x.n = n then x else tl0 := by
  unfold firstT hasT
  rw [List.find?_append]
  cases h : L.find? (fun x => x.n == n) with
  | some y => simp
  | none =>
    by_cases e : x.n = n
    · simp [e]
    · simp [e]
theorem hasT_snoc (L : List Tl) (x : Tl) (n : Bs) : hasT (L ++ [x]) n = (hasT L n || decide (x.n = n)) := by
  unfold hasT
  rw [List.find?_append]
  cases h : L.find? (fun x => x.n == n) with
  | some y => simp
  | none =>
    by_cases e : x.n = n
    · simp [e]
    · simp [e]
theorem firstT_none {L : List Tl} {n : Bs} (h : hasT L n = false) : firstT L n = tl0 := by
  unfold hasT at h
  unfold firstT
  cases e : L.find? (fun x => x.n == n) with
  | none => rfl
  | some y => rw [e] at h; cases h
theorem TMap.same {w : World} {m N : Nat} {L : List Tl} {x : Tl} (h : TMap w m N L) (hx : hasT L x.n = true) : TMap w m (N + 1) (L ++ [x]) := by
  obtain ⟨M, hM, h1, h2⟩ := h
  refine ⟨M, hM.mono (Nat.le_succ _), fun n => ?_, fun n => ?_⟩
  · rw [h1 n, firstT_snoc]
    cases hh : hasT L n with
    | true => rfl
    | false =>
      rw [if_neg (by simp), if_neg (fun e => by rw [← e, hx] at hh; cases hh), firstT_none hh]
  · rw [h2 n, hasT_snoc]
    by_cases e : x.n = n
    · rw [← e, hx]; rfl
    · simp [e]
theorem TMap.put {w : World} {m N : Nat} {L : List Tl} {x : Tl} (h : TMap w m N L) (hx : hasT L x.n = false) (hN : N < maxLen) (hl : x.n.length ≤ maxLen) :
    ∃ w', (Instr.mapUpdate 84 (.map (some m)) (.string (bs x.n)) (.agg #[.string (bs x.n), .int .i64 x.k, .bool x.t])).run Try.prog w = .ok () w' ∧ w.grownBy w' (some m) ∧ TMap w' m (N + 1) (L ++ [x]) := by
  obtain ⟨M, hM, h1, h2⟩ := h
  obtain ⟨w', hrun, hM', hgr⟩ := hM.update strKey Try.underlying84 hN (keyStr hl) (tailE_mk x)
  refine ⟨w', hrun, hgr, _, hM', fun n => ?_, fun n => ?_⟩
  · rw [firstT_snoc]
    by_cases e : n = x.n
    · subst e
      rw [atKey_put_same hM.isMap (by trivial), hx, if_neg (by simp), if_pos rfl]
    · rw [atKey_put_other (by simpa using e), h1 n]
      cases hh : hasT L n with
      | true => rfl
      | false => rw [if_neg (by simp), if_neg (fun e' => e e'.symm), firstT_none hh]
  · rw [hasT_snoc]
    by_cases e : n = x.n
    · subst e
      rw [has_put_same hM.isMap (by trivial)]
      simp
    · rw [has_put_other (by simpa using e), h2 n]
      have e2 : ¬ x.n = n := fun e' => e e'.symm
      simp [e2]

set_option maxHeartbeats 2000000 in
theorem firstTails_any (A : Option Addr) (L : List Tl) (c : Nat) (w : World) (hS : Tls w A L) (hl : L.length ≤ 1000000000) (hn : ∀ x ∈ L, x.n.length ≤ maxLen) :
    Calls Try.prog 51 #[.slice A L.length c] w fun e w' => e = .returned (.map (some w.heap.size)) ∧ TMap w' w.heap.size L.length L ∧ Below w.heap.size w w' := by
  have hmm := @run_makeMap Try.prog
  obtain ⟨n, hnl⟩ : ∃ n, n = L.length := ⟨_, rfl⟩
  rw [← hnl]
  have HN := Lib.hid hnl
  have HX := Lib.hid hn
  have hn1 : n ≤ 1000000000 := by omega
  clear hn hnl hl
  go_enter Try.func51, Try.ntmps51
  go_wp2_with fail
  clear hmm
  go_loopw [11] (fun v wr => ∃ k : Nat, v = .int .i64 k ∧ k ≤ n ∧ TMap wr w.heap.size k (L.take k) ∧ Below w.heap.size w wr) (fun v _ => n - (intOf v).toNat)
  case atStart => exact ⟨0, rfl, by omega, TMap.new w, Below.alloc (Below.refl _ _) (Nat.le_refl _) _⟩
  case round =>
    obtain ⟨k, rfl, hk, hT, hB⟩ := hrel
    by_cases hlt : k < n
    · have hlt' : (k : Int) < (n : Int) := by omega
      have kL : k < L.length := by have := HN.out; omega
      obtain ⟨g, off, rfl, hc⟩ := id hS (by omega)
      have R1 := hc k kL
      have hxl := HX.out L[k] (List.getElem_mem kL)
      have htk : L.take (k + 1) = L.take k ++ [L[k]] := List.take_succ_eq_append_getElem kL
      obtain ⟨x, hx⟩ : ∃ x, x = L[k] := ⟨_, rfl⟩
      rw [← hx] at R1 hxl htk
      have HT := Lib.hid htk
      have R2 : wr.rangeAt g (off + k * 3) [.string (bs x.n), .int .i64 x.k, .bool x.t] := fun i v hv => (World.cell?_of_block (hB.block g (World.block_lt_of_cell? w _ (R1 i v hv)))).trans (R1 i v hv)
      have q0 := R2 0 _ rfl
      have q1 := R2 1 _ rfl
      have q2 := R2 2 _ rfl
      rw [Nat.add_zero] at q0
      clear hx htk R1 hc
      have b1 : Below wr.heap.size wr (wr.alloc (.cells #[.string (bs x.n), .int .i64 x.k, .bool x.t] 44)) := Below.alloc (Below.refl _ _) (Nat.le_refl _) _
      have hT1 := hT.below b1
      have hB1 : Below w.heap.size w (wr.alloc (.cells #[.string (bs x.n), .int .i64 x.k, .bool x.t] 44)) := Below.alloc hB hB.size _
      have look := hT1.look_ok x.n hxl
      have s0 := hB.size
      cases hh : hasT (L.take k) x.n with
      | true =>
        rw [hh] at look
        generalize firstT (L.take k) x.n = f at *
        have hT2 := (hT1.below (w1 := (wr.alloc (.cells #[.string (bs x.n), .int .i64 x.k, .bool x.t] 44)).alloc (.cells #[.string (bs f.n), .int .i64 f.k, .bool f.t] 44)) (Below.alloc (Below.refl _ _) (Nat.le_refl _) _)).same hh
        rw [← HT.out] at hT2
        have H2 := Lib.hid hT2
        have HB2 : Hid (Below w.heap.size w ((wr.alloc (.cells #[.string (bs x.n), .int .i64 x.k, .bool x.t] 44)).alloc (.cells #[.string (bs f.n), .int .i64 f.k, .bool f.t] 44))) := Lib.hid (Below.alloc hB1 hB1.size _)
        clear hT2 hT1 hT b1 hB1 hh hB
        go_wp2_with fail
        go_roundw
        case rel => exact ⟨k + 1, by go_num, by omega, H2.out, HB2.out⟩
        case measure => simp [intOf]; omega
      | false =>
        rw [hh] at look
        generalize firstT (L.take k) x.n = f at *
        obtain ⟨w4, hrun, hgr, hT4⟩ := (hT1.below (w1 := (wr.alloc (.cells #[.string (bs x.n), .int .i64 x.k, .bool x.t] 44)).alloc (.cells #[.string (bs f.n), .int .i64 f.k, .bool f.t] 44)) (Below.alloc (Below.refl _ _) (Nat.le_refl _) _)).put hh (by unfold maxLen; omega) hxl
        rw [← HT.out] at hT4
        have H4 := Lib.hid hT4
        have HB4 : Hid (Below w.heap.size w w4) := Lib.hid ((Below.alloc hB1 hB1.size _).grown hgr (by simp; omega) (fun k e => by injection e with e; omega))
        clear hT4 hT1 hT b1 hB1 hh hB hgr
        go_wp2_with fail
        go_roundw
        case rel => exact ⟨k + 1, by go_num, by omega, H4.out, HB4.out⟩
        case measure => simp [intOf]; omega
    · obtain rfl : k = n := by omega
      have hL : L.take k = L := by rw [HN.out, List.take_length]
      rw [hL] at hT
      have HT := Lib.hid hT
      clear hT hL
      go_wp2_with fail
      go_ret
      exact ⟨rfl, HT.out, hB⟩
end Go.Proofs.Ytcnnifogppabdaa
