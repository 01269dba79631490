/-
  The document's Join, and the statements' Name.
-/
import Derived.Test.YtgfahkgnblkhaaaDoorNmM
import Derived.Test.YtgfahkgnblkhaaaDoorNmW
import Derived.Laws.IdiomStrings
import Derived.LoopTactic
import Derived.OwnWalk
import Derived.Deep.AppendLies
namespace Go.Proofs.YtgfahkgnblkhaaaDoor
open Go.RowKit

/-- A slice of strings reads as a list. -/
def Strs (w : World) (A : Option Addr) (L : List Bs) : Prop := 0 < L.length → ∃ g off, A = some ⟨g, off, none⟩ ∧ ∀ j (h : j < L.length), w.cell? ⟨g, off + j, none⟩ = some (.string (bs L[j]))
theorem Strs.on {w w1 : World} {A : Option Addr} {L : List Bs} (h : Strs w A L) (hB : Below w.heap.size w w1) : Strs w1 A L := fun hn => by
  obtain ⟨g, off, e, hc⟩ := h hn
  exact ⟨g, off, e, fun j hj => (hB.cell (p := ⟨g, off + j, none⟩) (World.block_lt_of_cell? w _ (hc j hj))).trans (hc j hj)⟩

theorem one_string (w : World) (n : Nat) (h : n ≤ 63) : (convert 29 9 (.slice (some ⟨w.heap.size, 0, none⟩) 1 1)).run Tryd.prog (w.alloc (Obj.cells #[.int .u8 n] 5 (0, 0))) = .ok (.string (bs [UInt8.ofNat n])) (w.alloc (Obj.cells #[.int .u8 n] 5 (0, 0))) :=
  run_convert_bytes_back (P := Tryd.prog) _ 29 9 5 ⟨w.heap.size, 0, none⟩ 1 [UInt8.ofNat n] Tryd.underlying29 Tryd.underlying5 Tryd.underlying9 (fun j hj => by
    have : j = 0 := by simp at hj; omega
    subst this
    have e : (UInt8.ofNat n).toNat = n := by simp; omega
    refine (cell_of_row _ _ _ _ _ _ (row_new _ rfl)).trans ?_
    simp; omega)

theorem enc_short : ∀ {L : List Bs}, (∀ x ∈ L, x.length ≤ 63) → (enc L).length ≤ 64 * L.length
  | [], _ => by simp [enc]
  | x :: L, h => by
    have := enc_short (L := L) fun y hy => h y (by simp [hy])
    have := h x (by simp)
    rw [enc_len_cons]
    simp; omega
theorem enc_one (x : Bs) : enc [x] = UInt8.ofNat x.length :: x := by simp [enc]
set_option maxHeartbeats 1000000 in
set_option maxRecDepth 100000 in
theorem Join_any (A : Option Addr) (c : Nat) (L : List Bs) (w : World) (hS : Strs w A L) (h63 : ∀ x ∈ L, x.length ≤ 63) (hn : L.length ≤ 2000000) :
    Calls Tryd.prog 44 #[.slice A L.length c] w fun e w' => e = .returned (.string (bs (join L))) ∧ Below w.heap.size w w' := by
  go_enter Tryd.func44, Tryd.ntmps44
  go_wp2_with fail
  go_loopw [3, 8] (fun s i wr => ∃ k : Nat, i = .int .i64 k ∧ k ≤ L.length ∧ s = .string (bs (enc (L.take k))) ∧ Below w.heap.size w wr) (fun _ i _ => L.length - (intOf i).toNat)
  case atStart => exact ⟨0, rfl, by omega, rfl, Below.refl _ _⟩
  case round =>
    obtain ⟨k, rfl, hk, rfl, hB⟩ := hrel
    by_cases hlt : k < L.length
    · obtain ⟨g, off, rfl, hcs⟩ := (hS.on hB) (by omega)
      obtain ⟨x, hxk⟩ : ∃ x, x = L[k] := ⟨_, rfl⟩
      obtain ⟨p, hpk⟩ : ∃ p, p = enc (L.take k) := ⟨_, rfl⟩
      have hc := hcs k hlt
      have hp := enc_short (L := L.take k) fun y hy => h63 y (List.mem_of_mem_take hy)
      rw [List.length_take, Nat.min_eq_left hk] at hp
      have hx := h63 L[k] (List.getElem_mem hlt)
      have hs : enc (L.take (k + 1)) = enc (L.take k) ++ ((UInt8.ofNat L[k].length) :: L[k]) := by rw [List.take_succ_eq_append_getElem hlt, enc_append, enc_one]
      rw [← hxk] at hc hx hs
      rw [← hpk] at hp hs
      rw [← hpk]
      have h1 := one_string wr x.length hx
      have HS := Lib.hid hs
      clear hs hcs hxk hpk
      have hsz := bs_size x
      have hps := bs_size p
      have hlt' : (k : Int) < (L.length : Int) := by omega
      go_wp2_with fail
      go_roundw
      case rel => exact ⟨k + 1, by go_num, by omega, by rw [bs_append, bs_append, HS.out]; rfl, Below.alloc hB hB.size _⟩
      case measure => simp [intOf]; omega
    · obtain rfl : k = L.length := by omega
      have hp := enc_short h63
      have hps := bs_size (enc L)
      have HJ := Lib.hid (show bs (join L) = bs (enc L) ++ bs [0] by rw [bs_append]; rfl)
      rw [List.take_length]
      generalize enc L = p at *
      go_wp2_with fail
      go_ret
      exact ⟨by rw [HJ.out]; rfl, hB⟩

/-- A slice of bytes reads as a list. -/
def Bys (w : World) (A : Option Addr) (l : Bs) : Prop := 0 < l.length → ∃ g off, A = some ⟨g, off, none⟩ ∧ ∀ j (h : j < l.length), w.cell? ⟨g, off + j, none⟩ = some (.int .u8 (l[j]).toNat)
theorem Bys.on {w w1 : World} {A : Option Addr} {L : Bs} (h : Bys w A L) (hB : Below w.heap.size w w1) : Bys w1 A L := fun hn => by
  obtain ⟨g, off, e, hc⟩ := h hn
  exact ⟨g, off, e, fun j hj => (hB.cell (p := ⟨g, off + j, none⟩) (World.block_lt_of_cell? w _ (hc j hj))).trans (hc j hj)⟩

def tab (r : Nat) : Bs := match r with
  | 0 => [97]
  | 1 => [98]
  | 2 => [119, 119, 119]
  | 3 => [110, 115]
  | 4 => [65]
  | _ => [120, 45, 49]
def nameOf (l : Bs) : List Bs := (l.take 4).map fun c => tab (c.toNat % 6)
theorem tab_lab (r : Nat) : Lab (tab r) := by
  unfold tab Lab
  split <;> decide
theorem nameOf_lab (l : Bs) : ∀ x ∈ nameOf l, Lab x := by
  intro x hx
  obtain ⟨c, _, rfl⟩ := List.mem_map.1 hx
  exact tab_lab _

theorem info_str : (Tryd.prog.info? 9).map (fun i => (i.zero, i.size, i.bytes)) = some (some (.string ⟨#[]⟩), 1, 16) := by kernel_rfl
theorem own_strs {w : World} {B : Nat} {A : Option Addr} {n c : Nat} {L : List Bs} (h : w.ownsRow B 9 1 (.slice A n c) n (L.map fun x => .string (bs x))) : n = L.length ∧ Strs w A L := by
  have hl := h.1
  simp at hl
  refine ⟨hl.symm, fun hn => ?_⟩
  rcases h.2 with ⟨_, h0⟩ | ⟨g, cap, cur, hv, _, hh, _, _, hsz, ht⟩
  · omega
  · have hA : A = some ⟨g, 0, none⟩ := by injection hv
    subst hA
    refine ⟨g, 0, rfl, fun j hj => ?_⟩
    refine (cell_of_row _ _ _ _ _ _ hh).trans ?_
    have e := congrArg (fun x => x[j]?) ht
    simp [hj] at e
    rw [List.getElem?_take_of_lt (by omega)] at e
    simpa using e

set_option maxHeartbeats 1000000 in
set_option maxRecDepth 100000 in
theorem Name_any (A : Option Addr) (c : Nat) (l : Bs) (w : World) (hS : Bys w A l) (hlc : l.length ≤ c) (hc2 : c ≤ 9223372036854775807) :
    Calls Tryd.prog 14 #[.slice A l.length c] w fun e w' => e = .returned (.string (bs (join (nameOf l)))) ∧ Below w.heap.size w w' := by
  obtain ⟨i0, hi, hz0, hz1, hz2⟩ := info_parts info_str
  go_enter Tryd.func14, Tryd.ntmps14
  go_wp2_with fail
  all_goals
    go_loopw [3, 12] (fun v i wr => ∃ k : Nat, i = .int .i64 k ∧ k ≤ (l.take 4).length ∧ wr.ownsRow w.heap.size 9 1 v k ((nameOf (l.take k)).map fun x => .string (bs x)) ∧ Below w.heap.size w wr) (fun _ i _ => 4 - (intOf i).toNat)
    case atStart => exact ⟨0, rfl, by omega, ⟨rfl, .inl ⟨rfl, rfl⟩⟩, Below.refl _ _⟩
    case round =>
      obtain ⟨k, rfl, hk, hown, hB⟩ := hrel
      rw [List.length_take] at hk
      by_cases hlt : k < 4 ∧ k < l.length
      · obtain ⟨hl4, hll⟩ := hlt
        obtain ⟨g, off, rfl, hcs⟩ := (hS.on hB) (by omega)
        have hc := hcs k hll
        clear hcs
        obtain ⟨b, hbk⟩ : ∃ b, b = l[k] := ⟨_, rfl⟩
        rw [← hbk] at hc
        have hb := b.toNat_lt
        have hk4 : (k : Int) < 4 := by omega
        have hkl : (k : Int) < (l.length : Int) := by omega
        have hkm : (k : Int) < max 4 0 := by omega
        have hnx : (nameOf (l.take (k + 1))) = nameOf (l.take k) ++ [tab (b.toNat % 6)] := by
          rw [List.take_succ_eq_append_getElem hll, ← hbk]
          unfold nameOf
          rw [List.take_of_length_le (l := l.take k) (by simp; omega), List.take_of_length_le (l := l.take k ++ [b]) (by simp; omega)]
          simp
        have HN := Lib.hid hnx
        clear hnx hbk
        generalize b.toNat = m at *
        obtain ⟨x, hx⟩ : ∃ x, x = tab (m % 6) := ⟨_, rfl⟩
        have c6 : (wr.alloc (Obj.cells #[.string ⟨#[97]⟩, .string ⟨#[98]⟩, .string ⟨#[119, 119, 119]⟩, .string ⟨#[110, 115]⟩, .string ⟨#[65]⟩, .string ⟨#[120, 45, 49]⟩] 9)).cell? ⟨wr.heap.size, m % 6, none⟩ = some (.string (bs x)) := by
          refine (cell_of_row _ _ _ _ _ _ (row_new _ rfl)).trans ?_
          rw [hx]
          have : m % 6 < 6 := Nat.mod_lt _ (by omega)
          generalize m % 6 = r at *
          match r, this with
          | 0, _ => rfl
          | 1, _ => rfl
          | 2, _ => rfl
          | 3, _ => rfl
          | 4, _ => rfl
          | 5, _ => rfl
        rw [← hx] at HN
        clear hx
        have hsz := hB.size
        go_wp2_with (at_builtin; refine wpList_append_own _ rfl _ _ 88 rfl w.heap.size 9 i0 (.string ⟨#[]⟩) 1 16 Tryd.underlying88 hi hz0 hz1 hz2 rfl (by decide) _ _ _ rfl ((hown.alloc _).alloc _) ⟨wr.heap.size + 1, 0, none⟩ 1 1 [.string (bs x)] rfl rfl ?c1 ?c2 ?c3 ?c4 ?c5 ?_)
        case c1 => exact World.news_of_block (cs := #[.string (bs x)]) (t := 9) (fr := (0, 0)) (row_new _ (by simp))
        case c2 => simp [Value.oneCell']
        case c3 => unfold maxLen; omega
        case c4 => omega
        case c5 => simp; omega
        intro v' w1 hown1 hgrow _
        have hB1 : Below w.heap.size w w1 := Below.grown (Below.alloc (Below.alloc hB hB.size _) (by simp; omega) _) hgrow (by simp; omega) (fun g e => (hown.lt g e).1)
        clear hgrow hB hown
        go_wp2_with fail
        go_roundw
        case rel => exact ⟨k + 1, by go_num, by rw [List.length_take]; omega, by rw [HN.out, List.map_append]; exact hown1, hB1⟩
        case measure => simp [intOf]; omega
      · have he : l.take k = l.take 4 := by
          rcases Nat.lt_or_ge k l.length with h | h
          · rw [show k = 4 by omega]
          · rw [List.take_of_length_le h, List.take_of_length_le (by omega)]
        have hnm : nameOf (l.take k) = nameOf l := by rw [he]; unfold nameOf; rw [List.take_take]; rfl
        obtain ⟨A', c', rfl⟩ : ∃ A' c', u3 = .slice A' k c' := by
          rcases hown.2 with ⟨rfl, rfl⟩ | ⟨g, cap, _, rfl, _⟩
          · exact ⟨_, _, rfl⟩
          · exact ⟨_, _, rfl⟩
        obtain ⟨hkl, hST⟩ := own_strs hown
        rw [hnm] at hkl hST
        have hJ := Join_any A' c' (nameOf l) wr hST (fun x hx => (nameOf_lab l x hx).2) (by omega)
        rw [← hkl] at hJ
        have HJ := Lib.hid hJ
        clear hJ hST hown hnm he
        first
          | (have hnk : ¬ (k : Int) < (l.length : Int) := by omega)
          | (have hnk : ¬ (k : Int) < max 4 0 := by omega)
        clear hkl
        go_wp2_with fail
        refine HJ.out.mono ?_
        rintro e w2 ⟨rfl, hB2⟩
        have hB3 : Below w.heap.size w w2 := Below.trans hB (hB2.mono hB.size)
        clear HJ hB2 hB
        go_wp2_with fail
        go_ret
        exact ⟨rfl, hB3⟩

end Go.Proofs.YtgfahkgnblkhaaaDoor
