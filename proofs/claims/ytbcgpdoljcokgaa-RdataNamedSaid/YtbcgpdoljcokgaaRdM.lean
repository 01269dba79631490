/-
  The document's Make (layer 3).
-/
import Derived.Test.YtbcgpdoljcokgaaRdN
import Derived.Test.YtbcgpdoljcokgaaQb
namespace Go.Proofs.Ytbcgpdoljcokgaa
open Go.RowKit
set_option linter.unusedVariables false

def fit (n : Int) : Bool := decide (0 ≤ n) && decide (n < 4294967296)
def putL (V : List Int) : Bs := V.flatMap fun n => fourB n.toNat
def soaV (m r : Bs) (V : List Int) : Value := .agg (#[.string (bs m), .string (bs r)] ++ (V.map (Value.int .i64)).toArray)
def makes (m r : Bs) (V : List Int) : Bool := can m && (can r && V.all fit)
def MakePost (w : World) (m r : Bs) (V : List Int) (e : Ending) (w' : World) : Prop :=
  Below w.heap.size w w' ∧ ((makes m r V = false ∧ e = .returned (.tuple #[.slice none 0 0, .int .i64 1])) ∨
    (makes m r V = true ∧ ∃ v, e = .returned (.tuple #[v, .int .i64 0]) ∧ OwnB w' w.heap.size v (m ++ r ++ putL V)))

theorem putL_snoc (V : List Int) (n : Int) : putL (V ++ [n]) = putL V ++ fourB n.toNat := by simp [putL]
theorem putL_len (V : List Int) : (putL V).length = 4 * V.length := by induction V with
  | nil => rfl
  | cons n V ih => simp [putL, fourB] at ih ⊢; omega

theorem OwnB.ne {w : World} {base G : Nat} {v : Value} {l : Bs} {x : Int} (h : OwnB w base v l) (hl : 0 < l.length) (hc : w.cell? ⟨G, 0, none⟩ = some (.int .i64 x)) : v.ownBlock ≠ some G := by
  rcases h with ⟨_, rfl⟩ | ⟨g, cap, rfl, _, _, _, _, hcs, _⟩
  · simp at hl
  · intro he
    simp [Value.ownBlock] at he
    subst he
    have := (hcs 0 hl).symm.trans hc
    injection this with this
    unfold byteV at this
    injection this with h1 _
    cases h1
theorem kept_block {w w' : World} {r : Option Nat} {g : Nat} {o : Obj} (h : w.grownBy w' r) (hg : w.heap[g]? = some o) (hne : r ≠ some g) : w'.heap[g]? = some o := (h.block g (Array.getElem?_eq_some_iff.1 hg).1 (fun e => hne e.symm)).trans hg
theorem alloc_block {w : World} {g : Nat} {o o' : Obj} (hg : w.heap[g]? = some o) : (w.alloc o').heap[g]? = some o := kept_block (r := none) (World.grownBy_alloc w o' none) hg (by simp)
theorem makes_no {m r : Bs} {V : List Int} {k : Nat} (hk : k < V.length) (h : fit V[k] = false) : makes m r V = false := by
  unfold makes
  have : V.all fit = false := by
    rw [List.all_eq_false]
    exact ⟨_, List.getElem_mem hk, by simp [h]⟩
  rw [this]; simp

set_option maxHeartbeats 4000000 in
set_option maxRecDepth 100000 in
theorem rMake_any (m r : Bs) (a b c d e : Int) (w : World) : Calls Try.prog 19 #[.agg #[.string (bs m), .string (bs r), .int .i64 a, .int .i64 b, .int .i64 c, .int .i64 d, .int .i64 e]] w (MakePost w m r [a, b, c, d, e]) := by
  have hrow := row_new (w := w) (k := w.heap.size) (.cells #[.string (bs m), .string (bs r), .int .i64 a, .int .i64 b, .int .i64 c, .int .i64 d, .int .i64 e] 30 (0, 0)) rfl
  have hbel : Below w.heap.size w (w.alloc (.cells #[.string (bs m), .string (bs r), .int .i64 a, .int .i64 b, .int .i64 c, .int .i64 d, .int .i64 e] 30)) := Below.alloc (Below.refl _ _) (Nat.le_refl _) _
  obtain ⟨V, hV⟩ : ∃ V, V = [a, b, c, d, e] := ⟨_, rfl⟩
  rw [← hV]
  have HV := Lib.hid hV
  clear hV
  go_enter Try.func19, Try.ntmps19
  go_wp2_with fail
  obtain ⟨w1, hw1⟩ : ∃ w1, w1 = w.alloc (.cells #[.string (bs m), .string (bs r), .int .i64 a, .int .i64 b, .int .i64 c, .int .i64 d, .int .i64 e] 30) := ⟨_, rfl⟩
  rw [← hw1] at hrow hbel
  rw [← hw1]
  have s1 : w1.heap.size = w.heap.size + 1 := by rw [hw1]; simp
  clear hw1
  have lt1 : w.heap.size < w1.heap.size := by omega
  have c0 := (cell_of_row _ w.heap.size 0 _ _ _ hrow).trans (show _ = some (.string (bs m)) from rfl)
  have c1 := (cell_of_row _ w.heap.size 1 _ _ _ hrow).trans (show _ = some (.string (bs r)) from rfl)
  have c2 := (cell_of_row _ w.heap.size 2 _ _ _ hrow).trans (show _ = some (.int .i64 a) from rfl)
  have c3 := (cell_of_row _ w.heap.size 3 _ _ _ hrow).trans (show _ = some (.int .i64 b) from rfl)
  have c4 := (cell_of_row _ w.heap.size 4 _ _ _ hrow).trans (show _ = some (.int .i64 c) from rfl)
  have c5 := (cell_of_row _ w.heap.size 5 _ _ _ hrow).trans (show _ = some (.int .i64 d) from rfl)
  have c6 := (cell_of_row _ w.heap.size 6 _ _ _ hrow).trans (show _ = some (.int .i64 e) from rfl)
  refine (rCan_any m _).mono ?_
  rintro e1 w2 ⟨rfl, rfl⟩
  cases hm : can m with
  | false =>
    go_wp2_with fail
    go_ret2
    exact ⟨hbel, .inl ⟨by unfold makes; rw [hm]; rfl, rfl⟩⟩
  | true =>
    go_wp2_with fail
    refine (rCan_any r _).mono ?_
    rintro e1 w2 ⟨rfl, rfl⟩
    cases hr : can r with
    | false =>
      go_wp2_with fail
      go_ret2
      exact ⟨hbel, .inl ⟨by unfold makes; rw [hm, hr]; rfl, rfl⟩⟩
    | true =>
      have lm := (can_out hm).1
      have lr := (can_out hr).1
      obtain ⟨v, w3, hcv, hown, hb3⟩ := conv_own (m ++ r) w1 (by simp; omega)
      rw [← bs_append] at hcv
      have k0 := (hb3.block w.heap.size lt1).trans hrow
      clear c2 c3 c4 c5 c6
      have c2 := (cell_of_row _ w.heap.size 2 _ _ _ k0).trans (show _ = some (.int .i64 a) from rfl)
      have c3 := (cell_of_row _ w.heap.size 3 _ _ _ k0).trans (show _ = some (.int .i64 b) from rfl)
      have c4 := (cell_of_row _ w.heap.size 4 _ _ _ k0).trans (show _ = some (.int .i64 c) from rfl)
      have c5 := (cell_of_row _ w.heap.size 5 _ _ _ k0).trans (show _ = some (.int .i64 d) from rfl)
      have c6 := (cell_of_row _ w.heap.size 6 _ _ _ k0).trans (show _ = some (.int .i64 e) from rfl)
      go_wp2_with fail
      have hG := row_new (w := w3) (k := w3.heap.size) (.cells #[.int .i64 a, .int .i64 b, .int .i64 c, .int .i64 d, .int .i64 e] 3 (0, 0)) rfl
      have hownW := hown.alloc (.cells #[.int .i64 a, .int .i64 b, .int .i64 c, .int .i64 d, .int .i64 e] 3 (0, 0))
      have hbW : Below w1.heap.size w1 (w3.alloc (.cells #[.int .i64 a, .int .i64 b, .int .i64 c, .int .i64 d, .int .i64 e] 3)) := Below.alloc hb3 hb3.size _
      generalize w3.alloc (.cells #[.int .i64 a, .int .i64 b, .int .i64 c, .int .i64 d, .int .i64 e] 3) = W at *
      obtain ⟨G, hGG⟩ : ∃ G, G = w3.heap.size := ⟨_, rfl⟩
      rw [← hGG] at hG
      rw [← hGG]
      have hV := HV.out
      rw [show (#[.int .i64 a, .int .i64 b, .int .i64 c, .int .i64 d, .int .i64 e] : Array Value) = (V.map (Value.int .i64)).toArray by rw [hV]; rfl] at hG
      have hV5 : V.length = 5 := by rw [hV]; rfl
      have hpos : 0 < (m ++ r).length := by
        have := can_out hm
        rw [List.length_append]
        have h2 : m ≠ [] := by rintro rfl; simp [can, labs] at hm
        have := List.length_pos_iff.2 h2
        omega
      have HM := Lib.hid hm
      have HR := Lib.hid hr
      have HB := Lib.hid hbel
      clear c0 c1 c2 c3 c4 c5 c6 k0 hcv hown hb3 hGG hV hrow hm hr hbel
      go_loopw [4, 35] (fun v i wr => ∃ k : Nat, k ≤ 5 ∧ i = .int .i64 k ∧ OwnB wr w1.heap.size v (m ++ r ++ putL (V.take k)) ∧ Hid ((V.take k).all fit = true) ∧ wr.heap[G]? = some (.cells (V.map (Value.int .i64)).toArray 3 (0, 0)) ∧ Below w1.heap.size w1 wr) (fun _ i _ => 5 - (intOf i).toNat)
      case atStart => exact ⟨0, by omega, rfl, by simpa [putL] using hownW, Lib.hid rfl, hG, hbW⟩
      case round =>
        obtain ⟨k, hk, rfl, hown, HA, hG', hB⟩ := hrel
        clear hownW hG hbW
        by_cases hlt : k < 5
        · have hkV : k < V.length := by omega
          have hcell := (cell_of_row _ G k _ _ _ hG').trans (show _ = some (.int .i64 V[k]) by simp [hkV])
          obtain ⟨x, hx⟩ : ∃ x, x = V[k] := ⟨_, rfl⟩
          rw [← hx] at hcell
          have HX := Lib.hid hx
          clear hx
          by_cases h0 : x < 0
          · go_wp2_with fail
            go_ret2
            exact ⟨HB.out.trans (hB.mono (by omega)), .inl ⟨makes_no hkV (by rw [← HX.out]; simp [fit]; omega), rfl⟩⟩
          · by_cases h1 : 4294967296 ≤ x
            · go_wp2_with fail
              go_ret2
              exact ⟨HB.out.trans (hB.mono (by omega)), .inl ⟨makes_no hkV (by rw [← HX.out]; simp [fit]; omega), rfl⟩⟩
            · have hcells : (fourB x.toNat).map byteV = [.int .u8 (x / 16777216), .int .u8 (x / 65536 % 256), .int .u8 (x / 256 % 256), .int .u8 (x % 256)] := by
                obtain ⟨n, rfl⟩ : ∃ n : Nat, x = n := ⟨x.toNat, by omega⟩
                have e1 : n / 16777216 % 256 = n / 16777216 := by omega
                simp [fourB, byteV, e1]
              have htk : V.take (k + 1) = V.take k ++ [x] := by rw [List.take_succ_eq_append_getElem hkV, HX.out]
              have hL : (V.take k).length = k := by rw [List.length_take]; omega
              obtain ⟨N, hN⟩ : ∃ N, N = fourB x.toNat := ⟨_, rfl⟩
              have hN4 : N.length = 4 := by rw [hN]; rfl
              rw [← hN] at hcells
              obtain ⟨L, hLL⟩ : ∃ L, L = m ++ r ++ putL (V.take k) := ⟨_, rfl⟩
              rw [← hLL] at hown
              have hLl : L.length ≤ 1000 := by rw [hLL, List.length_append, List.length_append, putL_len, hL]; omega
              have hLp : 0 < L.length := by rw [hLL, List.length_append]; omega
              have hsum : L ++ N = m ++ r ++ putL (V.take (k + 1)) := by rw [htk, putL_snoc, hLL, hN, List.append_assoc]
              have HS := Lib.hid hsum
              have HC := Lib.hid hcells
              have HT := Lib.hid htk
              have hsz := hB.size
              have hne := hown.ne hLp ((cell_of_row _ G 0 _ _ _ hG').trans (show (List.map (Value.int .i64) V).toArray[0]? = some (Value.int .i64 V[0]) by simp))
              clear htk hcells hLL hN hsum
              go_wp2_with (at_builtin; refine wpList_append_ownB rfl _ _ rfl w1.heap.size _ L rfl (hown.alloc _) ⟨wr.heap.size, 0, none⟩ 4 4 N rfl hN4.symm _ HC.out (World.news_of_block (cs := #[.int .u8 (x / 16777216), .int .u8 (x / 65536 % 256), .int .u8 (x / 256 % 256), .int .u8 (x % 256)]) (t := 5) (fr := (0, 0)) (row_new _ rfl)) (by omega) (by simp; omega) ?_)
              intro v' w4 hown4 hgrow
              have hG4 := kept_block hgrow (alloc_block hG') hne
              have hB4 : Below w1.heap.size w1 w4 := Below.grown (Below.alloc hB hB.size _) hgrow (by simp; omega) (fun g e => (hown.lt g e).1)
              rw [HS.out] at hown4
              have HO := Lib.hid hown4
              clear hgrow hown hG' hB hown4
              go_wp2_with fail
              go_roundw
              case rel => exact ⟨k + 1, by omega, by congr 1, by rw [s1]; exact HO.out, Lib.hid (by rw [HT.out, List.all_append, HA.out]; simp [fit]; omega), hG4, hB4⟩
              case measure => simp [intOf]; omega
        · obtain rfl : k = 5 := by omega
          rw [show V.take 5 = V by rw [← hV5]; exact List.take_length] at hown HA
          go_wp2_with fail
          go_ret2
          exact ⟨HB.out.trans (hB.mono (by omega)), .inr ⟨by unfold makes; rw [HM.out, HR.out, HA.out]; rfl, _, rfl, hown.mono (base' := w.heap.size) (by omega)⟩⟩
end Go.Proofs.Ytbcgpdoljcokgaa
