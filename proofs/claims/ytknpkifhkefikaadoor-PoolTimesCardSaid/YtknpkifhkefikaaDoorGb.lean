/-
  A slice of bytes that reads as a list: cut, made a string, indexed.
  A slice of bytes that the call made, said by its cells: what '[]byte(s)' leaves too (its row bears a mark behind its cells, so it is no 'ownsRow'); append onto it, both ways in one law.
  The document's Can and Labels.
  bytes.Equal, bytes.Clone, slices.Equal of texts, over bytes and strings in memory.
  append onto a slice of bytes that the call made: where the new one lies; from any source, a nil one too.
  Slices of bytes in memory, one behind the other; rows whose data the call made; append that says where the new row lies.
-/
import Derived.Test.YtknpkifhkefikaaDoorGa
import Derived.ArgAppend
import Derived.Lib.SliceRun
import Derived.BigQuiet
import Derived.Deep.MidRow
import Derived.Laws.AppendOwnNone
import Derived.Maps.AppendAt
namespace Go.Proofs.YtknpkifhkefikaaDoor
open Go.RowKit
set_option linter.unusedVariables false
set_option maxRecDepth 100000

theorem Bys.cut {w : World} {A : Option Addr} {l : Bs} (h : Bys w A l) {k c : Nat} (hc : l.length ≤ c) : Bys w (if c = k then A else A.map (·.add k)) (l.drop k) := fun hn => by
  rw [List.length_drop] at hn
  obtain ⟨g, off, rfl, hcs⟩ := h (by omega)
  rw [if_neg (by omega)]
  refine ⟨g, off + k, ?_, fun j hj => ?_⟩
  · simp only [Option.map_some]
    unfold Addr.add
    split <;> simp_all
  · rw [List.length_drop] at hj
    have := hcs (k + j) (by omega)
    rw [← Nat.add_assoc] at this
    rw [this, List.getElem_drop]
theorem Bys.pre {w : World} {A : Option Addr} {l : Bs} (h : Bys w A l) (k : Nat) : Bys w A (l.take k) := fun hn => by
  rw [List.length_take] at hn
  obtain ⟨g, off, rfl, hcs⟩ := h (by omega)
  refine ⟨g, off, rfl, fun j hj => ?_⟩
  rw [List.length_take] at hj
  rw [hcs j (by omega), List.getElem_take]
theorem Bys.nil (w : World) (A : Option Addr) : Bys w A [] := fun h => absurd h (by simp)

theorem size_u8 (w : World) : (sizeOf 5).run Tryd.prog w = .ok 1 w := by
  obtain ⟨i0, hi, hz0, hz1, hz2⟩ := info_parts info_u8
  simp [sizeOf, typeInfo, hi, hz1]
theorem elem_bytes : Tryd.prog.elem 29 = 5 := by kernel_rfl

/-- 'b[k:]'. -/
theorem slice_bys (A : Option Addr) (l : Bs) (c k : Nat) (i : Int) (w : World) (hS : Bys w A l) (hk : k ≤ l.length) (hc : l.length ≤ c) (hi : i = k) : ∃ A', (∀ w : World, (Instr.slice 29 (.slice A l.length c) (some (.int .i64 i)) none none).run Tryd.prog w = .ok (.slice A' (l.drop k).length (c - k)) w) ∧ Bys w A' (l.drop k) ∧ (l.drop k).length ≤ c - k := by
  subst hi
  refine ⟨_, fun w => ?_, hS.cut (k := k) hc, by rw [List.length_drop]; omega⟩
  rw [run_slice_l w 29 A l.length c (by rw [elem_bytes]; exact Tryd.underlying29) _ _ (by omega) (by omega), elem_bytes, size_u8]
  simp [sliced]
/-- 'b[:k]'. -/
theorem slice_pre (A : Option Addr) (l : Bs) (c k : Nat) (i : Int) (hk : k ≤ l.length) (hc : l.length ≤ c) (hi : i = k) : ∀ w : World, (Instr.slice 29 (.slice A l.length c) none (some (.int .i64 i)) none).run Tryd.prog w = .ok (.slice A (l.take k).length c) w := by
  intro w
  subst hi
  rw [run_slice_h w 29 A l.length c (by rw [elem_bytes]; exact Tryd.underlying29) _ _ (by omega) (by omega), elem_bytes, size_u8]
  simp only [Result.andThen_ok, sliced, List.length_take, Nat.min_eq_left hk]
  by_cases h : c = 0
  · subst h; simp
  · simp only [Nat.sub_zero, if_neg h, Int.toNat_natCast]
    cases A with
    | none => simp
    | some a => simp [Addr.add]

/-- 'string(b)'. -/
theorem string_bys (A : Option Addr) (l : Bs) (c : Nat) (w : World) (hS : Bys w A l) : (convert 29 9 (.slice A l.length c)).run Tryd.prog w = .ok (.string (bs l)) w := by
  cases l with
  | nil =>
    cases A with
    | none =>
      rw [List.length_nil, run_convert_bytes_nil (P := Tryd.prog) w 29 5 Tryd.underlying29 Tryd.underlying5]
      all_goals first | exact Tryd.underlying9 | rfl
    | some a => exact run_convert_bytes_back (P := Tryd.prog) w 29 9 5 a c [] Tryd.underlying29 Tryd.underlying5 Tryd.underlying9 (fun j hj => absurd hj (by simp))
  | cons b l =>
    obtain ⟨g, off, rfl, hcs⟩ := hS (by simp)
    refine run_convert_bytes_back (P := Tryd.prog) w 29 9 5 ⟨g, off, none⟩ c (b :: l) Tryd.underlying29 Tryd.underlying5 Tryd.underlying9 (fun j hj => ?_)
    rw [show (⟨g, off, none⟩ : Addr).add j = ⟨g, off + j, none⟩ by unfold Addr.add; split <;> simp_all]
    exact hcs j hj
end Go.Proofs.YtknpkifhkefikaaDoor
namespace Go.Proofs.YtknpkifhkefikaaDoor
open Go.RowKit
set_option linter.unusedVariables false
set_option maxRecDepth 100000

def byteV (b : UInt8) : Value := .int .u8 b.toNat
def OwnB (w : World) (base : Nat) (v : Value) (l : Bs) : Prop :=
  (v = .slice none 0 0 ∧ l = []) ∨
  ∃ g cap, v = .slice (some ⟨g, 0, none⟩) l.length cap ∧ base ≤ g ∧ g < w.heap.size ∧ l.length ≤ cap ∧ cap ≤ maxLen ∧ (∀ j (h : j < l.length), w.cell? ⟨g, j, none⟩ = some (byteV l[j])) ∧
    ∀ j, l.length ≤ j → j < cap → (w.cell? ⟨g, j, none⟩).isSome = true ∧ w.frozen? ⟨g, j, none⟩ = false

theorem OwnB.kept {w w' : World} {base : Nat} {v : Value} {l : Bs} {r : Option Nat} (h : OwnB w base v l) (hg : w.grownBy w' r) (hne : v.ownBlock = none ∨ v.ownBlock ≠ r) : OwnB w' base v l := by
  rcases h with h | ⟨g, cap, rfl, hb, hlt, hc, hm, hcs, hsp⟩
  · exact .inl h
  · have hblk : w'.heap[g]? = w.heap[g]? := hg.block g hlt (by simpa [Value.ownBlock] using hne)
    refine .inr ⟨g, cap, rfl, hb, Nat.lt_of_lt_of_le hlt hg.size, hc, hm, fun j hj => ?_, fun j h1 h2 => ?_⟩
    · rw [World.cell?_of_block (a := ⟨g, j, none⟩) hblk]; exact hcs j hj
    · rw [World.cell?_of_block (a := ⟨g, j, none⟩) hblk, World.frozen?_of_block (a := ⟨g, j, none⟩) hblk]; exact hsp j h1 h2
theorem OwnB.alloc {w : World} {base : Nat} {v : Value} {l : Bs} (h : OwnB w base v l) (o : Obj) : OwnB (w.alloc o) base v l :=
  h.kept (World.grownBy_alloc w o none) (by cases hv : v.ownBlock <;> simp)
theorem OwnB.below {w w' : World} {base B : Nat} {v : Value} {l : Bs} (h : OwnB w base v l) (hB : Below B w w') (hs : w.heap.size ≤ B) : OwnB w' base v l := by
  refine h.kept (r := none) ⟨hB.os, hB.tape, hB.output, hB.size, fun k hk _ => hB.block k (by omega)⟩ (by cases hv : v.ownBlock <;> simp)
theorem OwnB.bys {w : World} {base : Nat} {v : Value} {l : Bs} (h : OwnB w base v l) : ∃ A c, v = .slice A l.length c ∧ Bys w A l ∧ l.length ≤ c ∧ c ≤ maxLen := by
  rcases h with ⟨rfl, rfl⟩ | ⟨g, cap, rfl, hb, hlt, hc, hm, hcs, hsp⟩
  · exact ⟨none, 0, rfl, fun h => absurd h (by simp), Nat.le_refl _, by unfold maxLen; omega⟩
  · exact ⟨_, cap, rfl, fun _ => ⟨g, 0, rfl, fun j hj => by rw [Nat.zero_add]; exact hcs j hj⟩, hc, hm⟩
theorem OwnB.mono {w : World} {base base' : Nat} {v : Value} {l : Bs} (h : OwnB w base v l) (hb : base' ≤ base) : OwnB w base' v l := by
  rcases h with h | ⟨g, cap, hv, h1, r⟩
  · exact .inl h
  · exact .inr ⟨g, cap, hv, by omega, r⟩
theorem OwnB.lt {w : World} {base : Nat} {v : Value} {l : Bs} (h : OwnB w base v l) : ∀ k, v.ownBlock = some k → base ≤ k ∧ k < w.heap.size := by
  intro k hk
  rcases h with ⟨rfl, _⟩ | ⟨g, cap, rfl, h1, h2, _⟩
  · simp [Value.ownBlock] at hk
  · simp [Value.ownBlock] at hk
    subst hk
    exact ⟨h1, h2⟩
theorem OwnB.of {w : World} {base n : Nat} {v : Value} {l : Bs} {xs : List Value} (h : w.ownsRow base 5 1 v n xs) (hx : xs = l.map byteV) : OwnB w base v l := by
  subst hx
  have hn : l.length = n := by have := h.1; simpa using this
  rcases h.2 with ⟨hv, h0⟩ | ⟨g, cap, cur, hv, hb, hh, hc, hm, hsz, ht⟩
  · exact .inl ⟨hv, List.eq_nil_of_length_eq_zero (by omega)⟩
  · rw [Nat.mul_one] at hsz ht
    refine .inr ⟨g, cap, by rw [hv, hn], hb, (Array.getElem?_eq_some_iff.1 hh).1, by omega, hm, fun j hj => ?_, fun j h1 h2 => ?_⟩
    · rw [cell_of_row _ _ _ _ _ _ hh]
      have e := congrArg (fun x => x[j]?) ht
      simp [hj] at e
      rw [List.getElem?_take_of_lt (by omega)] at e
      simpa using e
    · rw [cell_of_row _ _ _ _ _ _ hh]
      refine ⟨by simp [hsz, h2], ?_⟩
      simp [World.frozen?, hh]

/-- '[]byte(s)'. -/
theorem conv_own (l : Bs) (w : World) (hl : l.length ≤ 140737488355328) : ∃ v w1, (convert 9 29 (.string (bs l))).run Tryd.prog w = .ok v w1 ∧ OwnB w1 w.heap.size v l ∧ Below w.heap.size w w1 := by
  have hr := run_bytes_of_string (P := Tryd.prog) w 9 29 5 (bs l) Tryd.underlying9 Tryd.underlying29 Tryd.underlying5
  rw [bs_size] at hr
  have hge := grownCap_ge w l.length 0 5
  have hcm : grownCap w l.length 0 5 ≤ maxLen := grownCap_le_maxLen w l.length 0 _ (by unfold maxLen; omega)
  have hsz : (bytesRow (bs l) (grownCap w l.length 0 5)).size = grownCap w l.length 0 5 := by have hz := bs_size l; simp [bytesRow]; omega
  have hrow := row_new (w := w.drew) (k := w.heap.size) (.cells (bytesRow (bs l) (grownCap w l.length 0 5)) 5 ((bytesRow (bs l) (grownCap w l.length 0 5)).size, (bytesRow (bs l) (grownCap w l.length 0 5)).size + 1)) rfl
  refine ⟨_, _, hr, .inr ⟨_, _, rfl, Nat.le_refl _, (Array.getElem?_eq_some_iff.1 hrow).1, hge, hcm, fun j hj => ?_, fun j h1 h2 => ?_⟩, Below.alloc (Below.drew (Below.refl _ _)) (Nat.le_refl _) _⟩
  · rw [cell_of_row _ _ _ _ _ _ hrow]
    simp [bytesRow, Array.getElem?_append, hj, byteV]
  · rw [cell_of_row _ _ _ _ _ _ hrow]
    refine ⟨by simp [hsz, h2], ?_⟩
    have hlo : ¬ (bytesRow (bs l) (grownCap w l.length 0 5)).size ≤ j := by omega
    exact (World.frozen?_alloc_mark w.drew _ _ _ _ j).trans (by simp [hlo])

theorem grownBy_setCells (b : Nat) : ∀ (vs : List Value) (o : Nat) (w : World), w.grownBy (w.setCells b o vs) (some b)
  | [], _, w => ⟨rfl, rfl, rfl, Nat.le_refl _, fun _ _ _ => rfl⟩
  | v :: r, o, w => by
    have h := grownBy_setCells b r (o + 1) (w.setCell ⟨b, o, none⟩ v)
    rw [World.setCells]
    refine ⟨by rw [h.os]; rfl, by rw [h.tape]; rfl, by rw [h.output]; rfl, by have := h.size; simpa using this, fun k hk hne => ?_⟩
    rw [h.block k (by simpa using hk) hne]
    exact heap_setCell_other _ _ _ _ (by simpa using hne)

/-- append of bytes onto such a slice. -/
theorem wpList_append_ownB {w : World} {ops : Array Oper} {rest : List Oper} {o : Oper} {a : Act} {Q : Exit → Act → World → Prop} (hgd : o.guard = none) (s x : Operand)
    (ho : o.op = .call { callee := .builtin .append, args := #[s, x], argTypes := #[29, 29] })
    (base : Nat) (v : Value) (l : Bs) (hs : a.eval s = v) (hown : OwnB w base v l)
    (ad : Addr) (c m : Nat) (news : Bs) (hx : a.eval x = .slice (some ad) m c) (hm : m = news.length) (xs : List Value) (hxs : news.map byteV = xs) (hnews : ∀ j u, xs[j]? = some u → w.cell? (ad.add j) = some u)
    (hlen : l.length + news.length ≤ 140737488355328) (hbase : base ≤ w.heap.size)
    (h : ∀ v' w', OwnB w' base v' (l ++ news) → w.grownBy w' v.ownBlock → wpList Tryd.prog ops Q rest (a.put o.dst v') w') : wpList Tryd.prog ops Q (o :: rest) a w := by
  obtain ⟨i0, hi, hz0, hz1, hz2⟩ := info_parts info_u8
  subst hm
  subst hxs
  have hone : ∀ u ∈ news.map byteV, u.oneCell' = true := fun u hu => by obtain ⟨b, _, rfl⟩ := List.mem_map.1 hu; rfl
  have hmax : l.length + news.length ≤ maxLen := by unfold maxLen; omega
  rcases hown with ⟨rfl, rfl⟩ | ⟨g, cap, rfl, hb, hlt, hc, hm, hcs, hsp⟩
  · refine wpList_append_own w hgd s x 29 ho base 5 i0 (.int .u8 0) 1 1 Tryd.underlying29 hi hz0 hz1 hz2 rfl (by decide) _ 0 [] hs (World.ownsRow_nil _ _ _ _) ad news.length c (news.map byteV) hx (by simp) hnews hone (by simpa using hmax) (by simpa using hlen) hbase ?_
    intro v' w' ho' hg' _
    exact h v' w' (OwnB.of ho' (by simp)) hg'
  · refine wpList_append_arg w hgd s x 29 ho 5 i0 (.int .u8 0) 1 1 Tryd.underlying29 hi hz0 hz1 hz2 rfl (by decide) g 0 l.length cap (l.map byteV) hs (by simp) ?_ ad news.length c (news.map byteV) hx (by simp) hnews hone ?_ hmax (by omega) ?_ ?_
    · intro j u hj
      rw [List.getElem?_map] at hj
      cases hl : l[j]? with
      | none => rw [hl] at hj; cases hj
      | some b =>
        rw [hl] at hj
        injection hj with hj
        obtain ⟨hjl, hjb⟩ := List.getElem?_eq_some_iff.1 hl
        rw [Nat.zero_add, hcs j hjl, hjb, hj]
    · intro hr j hj
      rw [List.length_map] at hj
      have := hsp (l.length + j) (by omega) (by omega)
      simpa using this
    · intro hr
      refine h _ _ (.inr ⟨g, cap, by rw [List.length_append], hb, ?_, by rw [List.length_append]; exact hr, hm, fun j hj => ?_, fun j h1 h2 => ?_⟩) ?_
      · exact Nat.lt_of_lt_of_le hlt (grownBy_setCells g _ _ w).size
      · by_cases hjl : j < l.length
        · rw [World.cell?_setCells_out g _ _ _ _ (fun _ _ => Or.inl (by simp; omega)), hcs j hjl, List.getElem_append_left hjl]
        · have hj2 : j - l.length < news.length := by rw [List.length_append] at hj; omega
          have := World.cell?_setCells_in g (news.map byteV) (0 + l.length * 1) w (fun k hk => by rw [List.length_map] at hk; have := (hsp (l.length + k) (by omega) (by omega)).1; simpa using this) (j - l.length) (by simpa using hj2)
          rw [show 0 + l.length * 1 + (j - l.length) = j by omega] at this
          rw [this, List.getElem_append_right (by omega)]
          simp
      · rw [List.length_append] at h1
        rw [World.frozen?_setCells, World.cell?_setCells_out g _ _ _ _ (fun _ _ => Or.inr (by simp; omega))]
        exact hsp j (by omega) h2
      · exact grownBy_setCells g _ _ w
    · intro hr v' w' ho' hg'
      have ho2 := OwnB.of (l := l ++ news) ho' (by simp)
      refine h v' w' (ho2.mono hbase) ⟨hg'.os, hg'.tape, hg'.output, hg'.size, fun k hk _ => hg'.block k hk (by simp)⟩
end Go.Proofs.YtknpkifhkefikaaDoor
namespace Go.Proofs.YtknpkifhkefikaaDoor
open Go.RowKit
set_option linter.unusedVariables false
set_option maxRecDepth 100000

set_option maxHeartbeats 1000000 in
theorem rCan_any (l : Bs) (w : World) : Calls Tryd.prog 43 #[.string (bs l)] w fun e w' => e = .returned (.bool (can l)) ∧ w = w' := by
  have hsz := bs_size l
  by_cases hlong : 255 < l.length
  · rw [can_long hlong]
    have h : (255 : Int) < (l.length : Int) := by omega
    go_enter Tryd.func43, Tryd.ntmps43
    go_wp2_with fail
    go_ret
    exact ⟨rfl, rfl⟩
  · have hl : (l.length : Int) ≤ 255 := by omega
    have hcan : can l = (labs l).isSome := by unfold can; simp; omega
    rw [hcan]
    clear hcan hlong
    go_enter Tryd.func43, Tryd.ntmps43
    go_wp2_with fail
    go_loop [3] (fun v => ∃ n : Nat, v = .int .i64 n ∧ n ≤ 400 ∧ Hid ((labs l).isSome = (labs (l.drop n)).isSome)) (fun v => 400 - (intOf v).toNat)
    case atStart => exact ⟨0, rfl, by omega, Lib.hid rfl⟩
    case round =>
      obtain ⟨n, rfl, hn, hS⟩ := hrel
      by_cases hlt : n < l.length
      · have hk := byte_lt l n hlt
        obtain ⟨k, hkd⟩ : ∃ k, k = (l[n]).toNat := ⟨_, rfl⟩
        have hix : ∀ wx : World, (Instr.index 9 (.string (bs l)) (.int .i64 n)).run Tryd.prog wx = .ok (.int .u8 k) wx := fun wx => by
          rw [run_index_string _ _ _ _ _ Tryd.underlying9, dif_pos (by rw [bs_size]; omega), hkd]
          rfl
        have hat := labs_at hlt
        rw [← hkd] at hk hat
        have HA := Lib.hid hat
        clear hkd hat
        have hlt' : (n : Int) < (l.length : Int) := by omega
        by_cases h0 : k = 0
        · have hb : ((k : Int) == 0) = true := by simp [h0]
          have hfin : (labs l).isSome = ((n : Int) == (l.length : Int) - 1) := by
            rw [hS.out, HA.out, if_pos h0]
            by_cases he : l.drop (n + 1) = []
            · rw [if_pos he]
              have := List.drop_eq_nil_iff.1 he
              simp; omega
            · rw [if_neg he]
              have : ¬ l.length ≤ n + 1 := fun h => he (List.drop_eq_nil_of_le h)
              simp; omega
          have HF := Lib.hid hfin
          clear HA hS hfin h0
          go_wp2_with fail
          go_ret
          exact ⟨by rw [HF.out]; rfl, rfl⟩
        · have hb : ((k : Int) == 0) = false := by simp [h0]
          by_cases h6 : (63 : Int) < (k : Int)
          · have hfin : (labs l).isSome = false := by
              rw [hS.out, HA.out, if_neg h0, if_pos (by omega)]; rfl
            have HF := Lib.hid hfin
            clear HA hS hfin h0
            go_wp2_with fail
            go_ret
            exact ⟨by rw [HF.out]; rfl, rfl⟩
          · have hnx : (labs l).isSome = (labs (l.drop (n + (1 + k)))).isSome := by
              rw [hS.out, HA.out, if_neg h0, if_neg (by omega), show n + (1 + k) = n + 1 + k by omega]
              simp
            have HF := Lib.hid hnx
            clear HA hS hnx h0
            go_wp2_with fail
            go_round
            case rel => exact ⟨n + (1 + k), by congr 1, by omega, HF⟩
            case measure => simp [intOf]; omega
      · have hfin : (labs l).isSome = false := by
          rw [hS.out, labs_short (by omega)]; rfl
        have HF := Lib.hid hfin
        clear hS hfin
        go_wp2_with fail
        go_ret
        exact ⟨by rw [HF.out]; rfl, rfl⟩

/-- What is told of a slice of strings that the call made. -/
def StrsPost (w : World) (L : List Bs) (e : Ending) (w' : World) : Prop := ∃ A c, e = .returned (.slice A L.length c) ∧ Strs w' A L ∧ L.length ≤ c ∧ Below w.heap.size w w'

theorem join_cons (x : Bs) (M : List Bs) : join (x :: M) = UInt8.ofNat x.length :: (x ++ join M) := by simp [join, enc]
theorem byte_at_st {L : List Bs} {i : Nat} (h : i < L.length) (h63 : (L[i]).length ≤ 63) : ∃ hb : st L i < (join L).length, ((join L)[st L i]).toNat = (L[i]).length := by
  have hb := st_le (L := L) (i := i) (by omega)
  refine ⟨hb, ?_⟩
  have e := drop_st L i
  rw [List.drop_eq_getElem_cons h, join_cons, List.drop_eq_getElem_cons hb] at e
  injection e with e _
  rw [e]
  simp; omega
theorem byte_at_end (L : List Bs) : ∃ hb : st L L.length < (join L).length, ((join L)[st L L.length]).toNat = 0 := by
  have hb := st_le (L := L) (i := L.length) (by omega)
  refine ⟨hb, ?_⟩
  have e := drop_st L L.length
  rw [List.drop_length, List.drop_eq_getElem_cons hb, show join [] = [0] from rfl] at e
  injection e with e _
  rw [e]; rfl


theorem slice_label2 {l : Bs} {L : List Bs} {i : Nat} (hj : l = join L) (hi : i < L.length) (wx : World) : (Instr.slice 9 (.string (bs l)) (some (.int .i64 ((st L i : Int) + 1))) (some (.int .i64 ((st L i : Int) + 1 + (L[i]).length))) none).run Tryd.prog wx = .ok (.string (bs (L[i]))) wx := by
  subst hj
  have h1 := st_at hi
  have h2 := st_le (L := L) (i := i + 1) (by omega)
  rw [show (st L i : Int) + 1 + (L[i]).length = (st L (i + 1) : Int) by rw [h1]; omega]
  rw [run_slice_string wx 9 _ _ _ _ _ Tryd.underlying9 (by omega) (by omega) (by rw [bs_size]; omega), bs_extract]
  rw [show ((st L i : Int) + 1).toNat = st L i + 1 by omega, Int.toNat_natCast, label_bytes hi]



end Go.Proofs.YtknpkifhkefikaaDoor
namespace Go.Proofs.YtknpkifhkefikaaDoor
open Go.RowKit
set_option linter.unusedVariables false
set_option maxRecDepth 100000

theorem cell_on {w w1 : World} {g o : Nat} {v : Value} (h : w.cell? ⟨g, o, none⟩ = some v) (hB : Below w.heap.size w w1) : w1.cell? ⟨g, o, none⟩ = some v :=
  (World.cell?_of_block (hB.block g (World.block_lt_of_cell? w _ h))).trans h
theorem range_on {w w1 : World} {g o : Nat} {cs : List Value} (h : w.rangeAt g o cs) (hB : Below w.heap.size w w1) : w1.rangeAt g o cs := fun j v hv => cell_on (h j v hv) hB
theorem grown_of_below {w w' : World} (hB : Below w.heap.size w w') (r : Option Nat) : w.grownBy w' r := ⟨hB.os, hB.tape, hB.output, hB.size, fun k hk _ => hB.block k hk⟩
theorem ownsRow_below {w w' : World} {base size n B : Nat} {e : TypeId} {v : Value} {xs : List Value} (h : w.ownsRow base e size v n xs) (hB : Below B w w') (hs : w.heap.size ≤ B) : w'.ownsRow base e size v n xs := by
  refine h.kept (row := none) ⟨hB.os, hB.tape, hB.output, hB.size, fun k hk _ => hB.block k (by omega)⟩ (by cases hv : v.ownBlock <;> simp)
theorem run_enter {f : FuncId} {fn : Func} (hf : Tryd.prog.funcs[f]? = some fn) (hname : (fn.name == "runtime.NumGoroutine") = false) (hb : fn.body.isNone = false) (args : Array Value) (w : World) : (callFunc f args).run Tryd.prog w = .ok (.enter f args) w := by
  have h1 : fn.name ≠ "runtime.NumGoroutine" := by simpa using hname
  simp [callFunc, hf, h1]
  intro h
  rw [h] at hb
  cases hb
theorem Bys.inside {w : World} {A : Option Addr} {l : Bs} (h : Bys w A l) : ∀ p, A = some p → 0 < l.length → p.block < w.heap.size := by
  intro p hp hn
  obtain ⟨g, off, hA, hc⟩ := h hn
  rw [hA] at hp
  injection hp with hp
  subst hp
  exact World.block_lt_of_cell? w _ (hc 0 hn)
theorem bs_beq (a b : Bs) : (bs a == bs b) = (a == b) := by
  show (a.toArray == b.toArray) = (a == b)
  simp

set_option maxHeartbeats 400000 in
theorem EqualB_any (A1 A2 : Option Addr) (l1 l2 : Bs) (n1 n2 c1 c2 : Nat) (w : World) (h1 : Bys w A1 l1) (h2 : Bys w A2 l2) (e1 : n1 = l1.length) (e2 : n2 = l2.length) :
    Calls Tryd.prog 11 #[.slice A1 n1 c1, .slice A2 n2 c2] w fun e w' => e = .returned (.bool (l1 == l2)) ∧ w = w' := by
  have x1 := string_bys A1 l1 c1 w h1
  have x2 := string_bys A2 l2 c2 w h2
  rw [← e1] at x1
  rw [← e2] at x2
  have HB := Lib.hid (bs_beq l1 l2)
  clear e1 e2 h1 h2
  go_enter Tryd.func11, Tryd.ntmps11
  go_wp2_with fail
  go_ret
  exact ⟨by rw [← HB.out]; rfl, rfl⟩


set_option maxHeartbeats 1000000 in
theorem CloneB_any (A : Option Addr) (l : Bs) (n c : Nat) (w : World) (hS : Bys w A l) (hn : n = l.length) (hl : n ≤ 140737488351232) (hin : ∀ p, A = some p → 0 < n → p.block < w.heap.size) :
    Calls Tryd.prog 19 #[.slice A n c] w fun e w' => ∃ v', e = .returned v' ∧ OwnB w' w.heap.size v' l ∧ Below w.heap.size w w' := by
  have q : ∀ (w : World) (a : Option Addr) (n c n' c' : Nat), (binOp .eql 29 (.slice a n c) (.slice none n' c')).run Tryd.prog w = .ok (.bool a.isNone) w := fun w a n c n' c' => Lib.run_eql_slice_nil w _ _ a n c n' c' Tryd.underlying29
  cases A with
  | none =>
    have hl0 : l = [] := by
      rcases l with _ | ⟨b, l⟩
      · rfl
      · obtain ⟨g, off, h, _⟩ := hS (by simp)
        cases h
    subst hl0
    clear hS hin
    go_enter Tryd.func19, Tryd.ntmps19
    go_wp2_with fail
    go_ret
    exact ⟨_, rfl, .inl ⟨rfl, rfl⟩, Below.refl _ _⟩
  | some p =>
    have hcells : ∀ (o : Obj) j u, (l.map byteV)[j]? = some u → (w.alloc o).cell? (p.add j) = some u := by
      intro o j u hj
      rw [List.getElem?_map] at hj
      cases hlj : l[j]? with
      | none => rw [hlj] at hj; cases hj
      | some b =>
        rw [hlj] at hj
        injection hj with hj
        obtain ⟨hjl, hjb⟩ := List.getElem?_eq_some_iff.1 hlj
        obtain ⟨g, off, hp, hcs⟩ := hS (by omega)
        injection hp with hp
        have hg := hin p rfl (by omega)
        subst hp
        have hadd : (⟨g, off, none⟩ : Addr).add j = ⟨g, off + j, none⟩ := by unfold Addr.add; split <;> simp_all
        rw [hadd, Below.cell (p := ⟨g, off + j, none⟩) (B := w.heap.size) ((Below.refl _ w).alloc (Nat.le_refl _) _) hg, hcs j hjl, hjb, ← hj]
        rfl
    have HC := Lib.hid hcells
    clear hcells hS hin
    obtain ⟨xs, hxs⟩ : ∃ xs, l.map byteV = xs := ⟨_, rfl⟩
    rw [hxs] at HC
    have HX := Lib.hid hxs
    clear hxs
    have hxl : xs.length = n * 1 := by rw [← HX.out]; simp; omega
    have h1c : ∀ u ∈ xs, u.oneCell' = true := fun u hu => by
      rw [← HX.out] at hu
      obtain ⟨b, _, rfl⟩ := List.mem_map.1 hu
      rfl
    have H1 := Lib.hid h1c
    have HXL := Lib.hid hxl
    obtain ⟨i0, hi, hz0, hz1, hz2⟩ := info_parts info_u8
    clear hxl h1c hn
    go_enter Tryd.func19, Tryd.ntmps19
    go_wp2_with (at_builtin; refine wpList_append_own _ rfl _ _ 29 rfl w.heap.size 5 i0 (.int .u8 0) 1 1 Tryd.underlying29 hi hz0 hz1 hz2 rfl (by decide) _ _ _ rfl (World.ownsRow_made w #[] 0 (Nat.le_refl _) (Nat.zero_le _) rfl) p n c xs rfl HXL.out (HC.out _) H1.out (by unfold maxLen; omega) (by omega) (by simp) ?_)
    intro v' w1 hown hgrow _
    have ho := OwnB.of (l := l) hown (by rw [HX.out])
    have hb : Below w.heap.size w w1 := ((Below.refl _ w).alloc (Nat.le_refl _) _).grown hgrow (by simp) (by intro k hk; simp [Value.ownBlock] at hk; omega)
    clear hown hgrow
    go_wp2_with fail
    go_ret
    exact ⟨v', rfl, ho, hb⟩
end Go.Proofs.YtknpkifhkefikaaDoor
namespace Go.Proofs.YtknpkifhkefikaaDoor
open Go.RowKit
set_option linter.unusedVariables false
set_option maxRecDepth 100000

/-- As wpList_append_ownB; and it says where the new slice lies. -/
theorem wpList_append_ownC {w : World} {ops : Array Oper} {rest : List Oper} {o : Oper} {a : Act} {Q : Exit → Act → World → Prop} (hgd : o.guard = none) (s x : Operand)
    (ho : o.op = .call { callee := .builtin .append, args := #[s, x], argTypes := #[29, 29] })
    (base : Nat) (v : Value) (l : Bs) (hs : a.eval s = v) (hown : OwnB w base v l)
    (ad : Addr) (c m : Nat) (news : Bs) (hx : a.eval x = .slice (some ad) m c) (hm : m = news.length) (xs : List Value) (hxs : news.map byteV = xs) (hnews : ∀ j u, xs[j]? = some u → w.cell? (ad.add j) = some u)
    (hlen : l.length + news.length ≤ 140737488355328) (hbase : base ≤ w.heap.size)
    (h : ∀ v' w', OwnB w' base v' (l ++ news) → w.grownBy w' v.ownBlock → (∀ k, v'.ownBlock = some k → v.ownBlock = some k ∨ w.heap.size ≤ k) → wpList Tryd.prog ops Q rest (a.put o.dst v') w') : wpList Tryd.prog ops Q (o :: rest) a w := by
  obtain ⟨i0, hi, hz0, hz1, hz2⟩ := info_parts info_u8
  subst hm
  subst hxs
  have hone : ∀ u ∈ news.map byteV, u.oneCell' = true := fun u hu => by obtain ⟨b, _, rfl⟩ := List.mem_map.1 hu; rfl
  have hmax : l.length + news.length ≤ maxLen := by unfold maxLen; omega
  rcases hown with ⟨rfl, rfl⟩ | ⟨g, cap, rfl, hb, hlt, hc, hm, hcs, hsp⟩
  · refine wpList_append_own w hgd s x 29 ho w.heap.size 5 i0 (.int .u8 0) 1 1 Tryd.underlying29 hi hz0 hz1 hz2 rfl (by decide) _ 0 [] hs (World.ownsRow_nil _ w.heap.size _ _) ad news.length c (news.map byteV) hx (by simp) hnews hone (by simpa using hmax) (by simpa using hlen) (Nat.le_refl _) ?_
    intro v' w' ho' hg' _
    have ho2 := OwnB.of (l := news) ho' (by simp)
    exact h v' w' (ho2.mono hbase) hg' (fun k hk => .inr (ho2.lt k hk).1)
  · refine wpList_append_arg w hgd s x 29 ho 5 i0 (.int .u8 0) 1 1 Tryd.underlying29 hi hz0 hz1 hz2 rfl (by decide) g 0 l.length cap (l.map byteV) hs (by simp) ?_ ad news.length c (news.map byteV) hx (by simp) hnews hone ?_ hmax (by omega) ?_ ?_
    · intro j u hj
      rw [List.getElem?_map] at hj
      cases hl : l[j]? with
      | none => rw [hl] at hj; cases hj
      | some b =>
        rw [hl] at hj
        injection hj with hj
        obtain ⟨hjl, hjb⟩ := List.getElem?_eq_some_iff.1 hl
        rw [Nat.zero_add, hcs j hjl, hjb, hj]
    · intro hr j hj
      rw [List.length_map] at hj
      have := hsp (l.length + j) (by omega) (by omega)
      simpa using this
    · intro hr
      refine h _ _ (.inr ⟨g, cap, by rw [List.length_append], hb, ?_, by rw [List.length_append]; exact hr, hm, fun j hj => ?_, fun j h1 h2 => ?_⟩) ?_ (fun k hk => .inl hk)
      · exact Nat.lt_of_lt_of_le hlt (grownBy_setCells g _ _ w).size
      · by_cases hjl : j < l.length
        · rw [World.cell?_setCells_out g _ _ _ _ (fun _ _ => Or.inl (by simp; omega)), hcs j hjl, List.getElem_append_left hjl]
        · have hj2 : j - l.length < news.length := by rw [List.length_append] at hj; omega
          have := World.cell?_setCells_in g (news.map byteV) (0 + l.length * 1) w (fun k hk => by rw [List.length_map] at hk; have := (hsp (l.length + k) (by omega) (by omega)).1; simpa using this) (j - l.length) (by simpa using hj2)
          rw [show 0 + l.length * 1 + (j - l.length) = j by omega] at this
          rw [this, List.getElem_append_right (by omega)]
          simp
      · rw [List.length_append] at h1
        rw [World.frozen?_setCells, World.cell?_setCells_out g _ _ _ _ (fun _ _ => Or.inr (by simp; omega))]
        exact hsp j (by omega) h2
      · exact grownBy_setCells g _ _ w
    · intro hr v' w' ho' hg'
      have ho2 := OwnB.of (l := l ++ news) ho' (by simp)
      refine h v' w' (ho2.mono hbase) ⟨hg'.os, hg'.tape, hg'.output, hg'.size, fun k hk _ => hg'.block k hk (by simp)⟩ (fun k hk => .inr (ho2.lt k hk).1)

theorem run_append_nilB {w : World} {base : Nat} {v : Value} {l : Bs} (ty : TypeId) (hown : OwnB w base v l) : (Builtin.append_ #[29, 29] ty #[v, .slice none 0 0]).run Tryd.prog w = .ok v w := by
  obtain ⟨i0, hi, hz0, hz1, hz2⟩ := info_parts info_u8
  rcases hown with ⟨rfl, rfl⟩ | ⟨g, cap, rfl, hb, hlt, hc, hm, hcs, hsp⟩
  · simp [Builtin.append_, run_underlying Tryd.underlying29, sizeOf, typeInfo, hi, Builtin.lenOf, Builtin.firstCells]
  · simp [Builtin.append_, run_underlying Tryd.underlying29, sizeOf, typeInfo, hi, Builtin.lenOf, Builtin.firstCells, hc, storeCells]
/-- append of whatever bytes. -/
theorem wpList_append_bys {w : World} {ops : Array Oper} {rest : List Oper} {o : Oper} {a : Act} {Q : Exit → Act → World → Prop} (hgd : o.guard = none) (s x : Operand)
    (ho : o.op = .call { callee := .builtin .append, args := #[s, x], argTypes := #[29, 29] })
    (base : Nat) (v : Value) (l : Bs) (hs : a.eval s = v) (hown : OwnB w base v l)
    (A : Option Addr) (c m : Nat) (news : Bs) (hx : a.eval x = .slice A m c) (hm : m = news.length) (hB : Bys w A news) (hA : A = none → c = 0)
    (hlen : l.length + news.length ≤ 140737488355328) (hbase : base ≤ w.heap.size)
    (h : ∀ v' w', OwnB w' base v' (l ++ news) → w.grownBy w' v.ownBlock → (∀ k, v'.ownBlock = some k → v.ownBlock = some k ∨ w.heap.size ≤ k) → wpList Tryd.prog ops Q rest (a.put o.dst v') w') : wpList Tryd.prog ops Q (o :: rest) a w := by
  cases A with
  | none =>
    have hn : news = [] := by
      rcases news with _ | ⟨b, r⟩
      · rfl
      · obtain ⟨g, off, hp, _⟩ := hB (by simp)
        cases hp
    subst hn
    obtain rfl := hA rfl
    obtain rfl : m = 0 := hm
    have hrun := run_append_nilB o.type hown
    have hh := h v w (by simpa using hown) ⟨rfl, rfl, rfl, Nat.le_refl _, fun _ _ _ => rfl⟩ (fun k hk => .inl hk)
    refine wpList_plain hgd fun K hK => ?_
    unfold Oper.wp
    simp [execOp, ho, resolve, invoke, builtin, hs, hx, hrun, Result.andThen]
    exact hK _ _ hh
  | some ad =>
    refine wpList_append_ownC hgd s x ho base v l hs hown ad c m news hx hm _ rfl (fun j u hj => ?_) hlen hbase h
    rw [List.getElem?_map] at hj
    cases hl : news[j]? with
    | none => rw [hl] at hj; cases hj
    | some b =>
      rw [hl] at hj
      injection hj with hj
      obtain ⟨hjl, hjb⟩ := List.getElem?_eq_some_iff.1 hl
      obtain ⟨g, off, hp, hcs⟩ := hB (by omega)
      injection hp with hp
      subst hp
      rw [show (⟨g, off, none⟩ : Addr).add j = ⟨g, off + j, none⟩ by unfold Addr.add; split <;> simp_all]
      rw [hcs j hjl, hjb, ← hj]
      rfl
/-- append, as an answer of the machine. -/
theorem run_append_bys {w : World} {base : Nat} {v : Value} {l : Bs} (ty : TypeId) (hown : OwnB w base v l)
    (ad : Addr) (c m : Nat) (news : Bs) (hm : m = news.length) (xs : List Value) (hxs : news.map byteV = xs) (hnews : ∀ j u, xs[j]? = some u → w.cell? (ad.add j) = some u)
    (hlen : l.length + news.length ≤ 140737488355328) (hbase : base ≤ w.heap.size) :
    ∃ v' w', (Builtin.append_ #[29, 29] ty #[v, .slice (some ad) m c]).run Tryd.prog w = .ok v' w' ∧ OwnB w' base v' (l ++ news) ∧ w.grownBy w' v.ownBlock := by
  obtain ⟨i0, hi, hz0, hz1, hz2⟩ := info_parts info_u8
  subst hm
  subst hxs
  have hone : ∀ u ∈ news.map byteV, u.oneCell' = true := fun u hu => by obtain ⟨b, _, rfl⟩ := List.mem_map.1 hu; rfl
  have hmax : l.length + news.length ≤ maxLen := by unfold maxLen; omega
  rcases hown with ⟨rfl, rfl⟩ | ⟨g, cap, rfl, hb, hlt, hc, hm, hcs, hsp⟩
  · obtain ⟨v', w', hr, h2, h3, h4⟩ := run_append_own (P := Tryd.prog) w w.heap.size 29 ty 5 i0 (.int .u8 0) 1 1 Tryd.underlying29 hi hz0 hz1 hz2 rfl (by decide) (.slice none 0 0) 0 [] (World.ownsRow_nil _ _ _ _) ad news.length c (news.map byteV) (by simp) hnews hone (by simpa using hmax) (by simpa using hlen) (Nat.le_refl _)
    have ho2 := OwnB.of (l := news) h2 (by simp)
    exact ⟨v', w', hr, ho2.mono hbase, h3⟩
  · have holds : ∀ j u, (l.map byteV)[j]? = some u → w.cell? ⟨g, 0 + j, none⟩ = some u := by
      intro j u hj
      rw [List.getElem?_map] at hj
      cases hl : l[j]? with
      | none => rw [hl] at hj; cases hj
      | some b =>
        rw [hl] at hj
        injection hj with hj
        obtain ⟨hjl, hjb⟩ := List.getElem?_eq_some_iff.1 hl
        rw [Nat.zero_add, hcs j hjl, hjb, hj]
    by_cases hr : l.length + news.length ≤ cap
    · have hrun := run_append_room_cells (P := Tryd.prog) w 29 ty 5 i0 Tryd.underlying29 hi g 0 l.length cap ad news.length c (news.map byteV) (by rw [hz1]; simp) hnews hone hr (fun j hj => by rw [List.length_map] at hj; have := (hsp (l.length + j) (by omega) (by omega)).1; rw [hz1]; simpa using this) (fun j hj => by rw [List.length_map] at hj; have := (hsp (l.length + j) (by omega) (by omega)).2; rw [hz1]; simpa using this)
      rw [hz1] at hrun
      refine ⟨_, _, hrun, .inr ⟨g, cap, by rw [List.length_append], hb, ?_, by rw [List.length_append]; exact hr, hm, fun j hj => ?_, fun j h1 h2 => ?_⟩, ?_⟩
      · exact Nat.lt_of_lt_of_le hlt (grownBy_setCells g _ _ w).size
      · by_cases hjl : j < l.length
        · rw [World.cell?_setCells_out g _ _ _ _ (fun _ _ => Or.inl (by simp; omega)), hcs j hjl, List.getElem_append_left hjl]
        · have hj2 : j - l.length < news.length := by rw [List.length_append] at hj; omega
          have := World.cell?_setCells_in g (news.map byteV) (0 + l.length * 1) w (fun k hk => by rw [List.length_map] at hk; have := (hsp (l.length + k) (by omega) (by omega)).1; simpa using this) (j - l.length) (by simpa using hj2)
          rw [show 0 + l.length * 1 + (j - l.length) = j by omega] at this
          rw [this, List.getElem_append_right (by omega)]
          simp
      · rw [List.length_append] at h1
        rw [World.frozen?_setCells, World.cell?_setCells_out g _ _ _ _ (fun _ _ => Or.inr (by simp; omega))]
        exact hsp j (by omega) h2
      · exact grownBy_setCells g _ _ w
    · obtain ⟨v', w', hrun, r1, r2⟩ := run_append_arg_grows (P := Tryd.prog) w 29 ty 5 i0 (.int .u8 0) 1 1 Tryd.underlying29 hi hz0 hz1 hz2 rfl (by decide) ⟨g, 0, none⟩ l.length cap (l.map byteV) (by simp) (fun j u hj => by rw [Addr.add_lit]; exact holds j u hj) ad news.length c (news.map byteV) (by simp) hnews (by omega) hmax (by omega)
      have ho2 := OwnB.of (l := l ++ news) r1 (by simp)
      exact ⟨v', w', hrun, ho2.mono hbase, ⟨r2.os, r2.tape, r2.output, r2.size, fun k hk _ => r2.block k hk (by simp)⟩⟩
/-- append under a guard: the walk takes its answer as it is laid. -/
noncomputable def appB (v u : Value) (ty : TypeId) (w : World) : Result Next := ((Builtin.append_ #[29, 29] ty #[v, u]).run Tryd.prog w).andThen fun a w' => .ok (.value a) w'
theorem exec_appB (ev : Operand → Value) (d : Option Tmp) (x y : Operand) (t : TypeId) (p : String) (f : Array Edge) (gd : Nat × Bool) (w : World) : (execOp ev { dst := d, op := .call { callee := .builtin .append, args := #[x, y], argTypes := #[29, 29] }, type := t, pos := p, after := f, guard := some gd }).run Tryd.prog w = appB (ev x) (ev y) t w := by
  unfold execOp appB
  simp only [resolve, invoke, builtin, Sem.run_bind, Sem.run_pure, Result.andThen_ok, List.map_toArray, List.map_cons, List.map_nil]
theorem appB_of {v u : Value} {ty : TypeId} {w w' : World} {v' : Value} (h : (Builtin.append_ #[29, 29] ty #[v, u]).run Tryd.prog w = .ok v' w') : appB v u ty w = .ok (.value v') w' := by
  unfold appB; rw [h]; rfl
end Go.Proofs.YtknpkifhkefikaaDoor
namespace Go.Proofs.YtknpkifhkefikaaDoor
open Go.RowKit
set_option linter.unusedVariables false
set_option maxRecDepth 100000

/-- Slices of bytes in memory, one behind the other. -/
def Byss (w : World) (A : Option Addr) (L : List Bs) : Prop := 0 < L.length → ∃ g off, A = some ⟨g, off, none⟩ ∧ ∀ j (h : j < L.length), ∃ a c, w.cell? ⟨g, off + j, none⟩ = some (.slice a (L[j]).length c) ∧ Bys w a L[j] ∧ (L[j]).length ≤ c ∧ c ≤ 9223372036854775807 ∧ (a = none → c = 0)
theorem Byss.on {w w1 : World} {A : Option Addr} {L : List Bs} (h : Byss w A L) (hB : Below w.heap.size w w1) : Byss w1 A L := fun hn => by
  obtain ⟨g, off, hA, hc⟩ := h hn
  refine ⟨g, off, hA, fun j hj => ?_⟩
  obtain ⟨a, c, h1, h2, h3⟩ := hc j hj
  have hlt := World.block_lt_of_cell? w _ h1
  exact ⟨a, c, (World.cell?_of_block (hB.block g hlt)).trans h1, h2.on hB, h3⟩

theorem info_sl : (Tryd.prog.info? 29).map (fun i => (i.zero, i.size, i.bytes)) = some (some (.slice none 0 0), 1, 24) := by kernel_rfl
theorem size_sl (w : World) : (sizeOf 29).run Tryd.prog w = .ok 1 w := by
  obtain ⟨i0, hi, hz0, hz1, hz2⟩ := info_parts info_sl
  simp [sizeOf, typeInfo, hi, hz1]
theorem grownBy_setRow {w : World} {g : Nat} (cs : Array Value) : w.grownBy (w.setRow g cs) (some g) :=
  ⟨rfl, rfl, rfl, by rw [size_setRow]; exact Nat.le_refl _, fun k _ hne => setRow_other w g k cs (by simpa using hne)⟩
section
variable {P : Program}
theorem wpList_append_at {w : World} {ops : Array Oper} {rest : List Oper} {o : Oper} {a : Act} {Q : Exit → Act → World → Prop} (hgd : o.guard = none) (s x : Operand) (t : TypeId)
    (ho : o.op = .call { callee := .builtin .append, args := #[s, x], argTypes := #[t, t] })
    (base : Nat) (e : TypeId) (i : TypeInfo) (z : Value) (size bytes : Nat) (ht : P.underlying t = some (.slice e)) (hi : P.info? e = some i) (hz : i.zero = some z)
    (hsize : i.size = size) (hby : i.bytes = bytes) (hzs : z.cells.size = size) (hsz : 0 < size)
    (v : Value) (n : Nat) (xs : List Value) (hs : a.eval s = v) (hown : w.ownsRow base e size v n xs)
    (ad : Addr) (m c : Nat) (news : List Value) (hx : a.eval x = .slice (some ad) m c) (hl : news.length = m * size) (hnews : ∀ j u, news[j]? = some u → w.cell? (ad.add j) = some u) (h1 : ∀ u ∈ news, u.oneCell' = true)
    (h63 : n + m ≤ maxLen) (hbytes : (n + m) * bytes ≤ 140737488355328) (hbase : base ≤ w.heap.size)
    (h : ∀ v' w', w'.ownsRow base e size v' (n + m) (xs ++ news) → w.grownBy w' v.ownBlock → (v'.ownBlock = v.ownBlock ∨ v'.ownBlock = some w.heap.size) → wpList P ops Q rest (a.put o.dst v') w') : wpList P ops Q (o :: rest) a w := by
  refine wpList_plain hgd fun K hK => ?_
  obtain ⟨v', w', hr, h2, h3, _, h5⟩ := run_append_own_at (P := P) w base t o.type e i z size bytes ht hi hz hsize hby hzs hsz v n xs hown ad m c news hl hnews h1 h63 hbytes hbase
  unfold Oper.wp execOp
  simp only [ho, resolve, invoke, builtin, Sem.run_bind, Sem.run_pure, Result.andThen_ok, List.map_toArray, List.map_cons, List.map_nil, hs, hx, hr]
  exact hK _ _ (h v' w' h2 h3 h5)
end
theorem grown_trans {W w1 w2 : World} {r r' : Option Nat} (h1 : W.grownBy w1 r) (h2 : w1.grownBy w2 r') (hr : ∀ k, r' = some k → r = some k ∨ W.heap.size ≤ k) : W.grownBy w2 r :=
  ⟨h2.os.trans h1.os, h2.tape.trans h1.tape, h2.output.trans h1.output, Nat.le_trans h1.size h2.size, fun k hk hne => (h2.block k (Nat.lt_of_lt_of_le hk h1.size) (fun he => by
    rcases hr k he.symm with h | h
    · exact hne h.symm
    · omega)).trans (h1.block k hk hne)⟩
theorem grown_refl (W : World) (r : Option Nat) : W.grownBy W r := ⟨rfl, rfl, rfl, Nat.le_refl _, fun _ _ _ => rfl⟩
theorem grown_alloc (w : World) (o : Obj) (r : Option Nat) : w.grownBy (w.alloc o) r := grown_of_below (Below.alloc (Below.refl _ _) (Nat.le_refl _) _) r

/-- Slices of bytes that the call made, none in the block u. -/
def RowsO (w : World) (base : Nat) (u : Option Nat) (xs : List Value) (M : List Bs) : Prop := xs.length = M.length ∧ ∀ j (h : j < M.length), ∃ v, xs[j]? = some v ∧ OwnB w base v M[j] ∧ (v.ownBlock = none ∨ v.ownBlock ≠ u)
theorem RowsO.nil {w : World} {base : Nat} {u : Option Nat} : RowsO w base u [] [] := ⟨rfl, fun j h => absurd h (by simp)⟩
theorem RowsO.kept {w w' : World} {base : Nat} {u : Option Nat} {xs : List Value} {M : List Bs} (h : RowsO w base u xs M) (hg : w.grownBy w' u) : RowsO w' base u xs M :=
  ⟨h.1, fun j hj => by
    obtain ⟨v, h1, h2, h3⟩ := h.2 j hj
    exact ⟨v, h1, h2.kept hg h3, h3⟩⟩
theorem RowsO.far {w w' : World} {base : Nat} {u r : Option Nat} {xs : List Value} {M : List Bs} (h : RowsO w base u xs M) (hg : w.grownBy w' r) (hr : ∀ k, r = some k → k < base) : RowsO w' base u xs M :=
  ⟨h.1, fun j hj => by
    obtain ⟨v, h1, h2, h3⟩ := h.2 j hj
    refine ⟨v, h1, h2.kept hg ?_, h3⟩
    cases hv : v.ownBlock with
    | none => exact .inl rfl
    | some k =>
      refine .inr fun e => ?_
      have := hr k e.symm
      have := (h2.lt k hv).1
      omega⟩
theorem RowsO.below {w w' : World} {base : Nat} {u : Option Nat} {xs : List Value} {M : List Bs} (h : RowsO w base u xs M) (hB : Below w.heap.size w w') : RowsO w' base u xs M := h.kept (grown_of_below hB u)
theorem RowsO.step {w w' : World} {base : Nat} {u u' : Option Nat} {xs : List Value} {M : List Bs} (h : RowsO w base u xs M) (hg : w.grownBy w' u) (hu : u' = u ∨ u' = some w.heap.size) : RowsO w' base u' xs M := by
  refine ⟨h.1, fun j hj => ?_⟩
  obtain ⟨v, h1, h2, h3⟩ := h.2 j hj
  refine ⟨v, h1, h2.kept hg h3, ?_⟩
  rcases hu with rfl | rfl
  · exact h3
  · refine .inr fun he => ?_
    have := (h2.lt _ he).2
    omega
theorem RowsO.snoc {w : World} {base : Nat} {u : Option Nat} {xs : List Value} {M : List Bs} {x : Bs} {v : Value} (h : RowsO w base u xs M) (hv : OwnB w base v x) (hn : v.ownBlock = none ∨ v.ownBlock ≠ u) : RowsO w base u (xs ++ [v]) (M ++ [x]) := by
  refine ⟨by simp [h.1], fun j hj => ?_⟩
  by_cases hjl : j < M.length
  · obtain ⟨v', h1, h2, h3⟩ := h.2 j hjl
    refine ⟨v', ?_, by rw [List.getElem_append_left hjl]; exact h2, h3⟩
    rw [List.getElem?_append_left (by rw [h.1]; exact hjl)]
    exact h1
  · have : j = M.length := by simp at hj; omega
    subst this
    refine ⟨v, ?_, by rw [List.getElem_append_right (Nat.le_refl _)]; simpa using hv, hn⟩
    rw [List.getElem?_append_right (by rw [h.1]; exact Nat.le_refl _), h.1]
    simp
/-- Slices of bytes in a row, all in memory that the call made. -/
theorem RowsO.byss {w : World} {base B n : Nat} {u : Option Nat} {v : Value} {xs : List Value} {M : List Bs} (ho : w.ownsRow B 29 1 v n xs) (h : RowsO w base u xs M) : n = M.length ∧ ∃ A c, v = .slice A M.length c ∧ Byss w A M ∧ M.length ≤ c ∧ c ≤ 9223372036854775807 ∧ (A = none → c = 0) := by
  have hl : n = M.length := by have := ho.1; rw [h.1] at this; omega
  refine ⟨hl, ?_⟩
  rcases ho.2 with ⟨hv, h0⟩ | ⟨g, cap, cur, hv, hb, hh, hc, hm2, hsz, ht⟩
  · exact ⟨none, 0, by rw [hv, ← hl, h0], fun hn => by omega, by omega, by omega, fun _ => rfl⟩
  · refine ⟨_, cap, by rw [hv, hl], fun hn => ⟨g, 0, rfl, fun j hj => ?_⟩, by omega, by unfold maxLen at hm2; omega, fun h => by cases h⟩
    obtain ⟨v', h1, h2, h3⟩ := h.2 j hj
    obtain ⟨A, c, rfl, hB, hle, hmx⟩ := h2.bys
    refine ⟨A, c, ?_, hB, hle, by unfold maxLen at hmx; omega, fun hA => ?_⟩
    · rw [cell_of_row _ g (0 + j) _ _ _ hh]
      rw [← ht, List.getElem?_take_of_lt (by omega)] at h1
      rw [Nat.zero_add]
      simpa using h1
    · rcases h2 with ⟨h2, _⟩ | ⟨g', cap', h2, _⟩
      · injection h2
      · injection h2 with e1
        rw [hA] at e1
        cases e1
theorem info_slb : (Tryd.prog.info? 29).map (fun i => (i.zero, i.size, i.bytes)) = some (some (.slice none 0 0), 1, 24) := info_sl
theorem OwnB.empty (w : World) (base : Nat) (hb : base ≤ w.heap.size) : OwnB (w.alloc (.cells #[] 5)) base (.slice (some ⟨w.heap.size, 0, none⟩) 0 0) [] :=
  .inr ⟨w.heap.size, 0, rfl, hb, by simp, Nat.le_refl _, by unfold maxLen; omega, fun j h => absurd h (by simp), fun j h1 h2 => by omega⟩
end Go.Proofs.YtknpkifhkefikaaDoor
