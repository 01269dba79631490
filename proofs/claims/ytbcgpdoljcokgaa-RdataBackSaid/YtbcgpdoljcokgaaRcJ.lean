/-
  The walk of RdataTexts.
-/
import Derived.Test.YtbcgpdoljcokgaaRcF
import Derived.Test.YtbcgpdoljcokgaaRdP
import Derived.Test.YtbcgpdoljcokgaaQc
namespace Go.Proofs.Ytbcgpdoljcokgaa
open Go.RowKit
set_option linter.unusedVariables false

/-- Slices of bytes in memory, one behind the other. -/
def Byss (w : World) (A : Option Addr) (L : List Bs) : Prop := 0 < L.length → ∃ g off, A = some ⟨g, off, none⟩ ∧ ∀ j (h : j < L.length), ∃ a c, w.cell? ⟨g, off + j, none⟩ = some (.slice a (L[j]).length c) ∧ Bys w a L[j] ∧ (L[j]).length ≤ c ∧ c ≤ 9223372036854775807 ∧ (a = none → c = 0)
theorem Byss.on {w w1 : World} {A : Option Addr} {L : List Bs} (h : Byss w A L) (hB : Below w.heap.size w w1) : Byss w1 A L := fun hn => by
  obtain ⟨g, off, hA, hc⟩ := h hn
  refine ⟨g, off, hA, fun j hj => ?_⟩
  obtain ⟨a, c, h1, h2, h3⟩ := hc j hj
  have hlt := World.block_lt_of_cell? w _ h1
  exact ⟨a, c, (World.cell?_of_block (hB.block g hlt)).trans h1, h2.on hB, h3⟩

theorem info_sl : (Try.prog.info? 22).map (fun i => (i.zero, i.size, i.bytes)) = some (some (.slice none 0 0), 1, 24) := by kernel_rfl
theorem size_sl (w : World) : (sizeOf 22).run Try.prog w = .ok 1 w := by
  obtain ⟨i0, hi, hz0, hz1, hz2⟩ := info_parts info_sl
  simp [sizeOf, typeInfo, hi, hz1]
theorem elem_slices : Try.prog.elem 42 = 22 := by kernel_rfl
/-- 'l[:k]' of slices. -/
theorem slice_preS (A : Option Addr) (n c k : Nat) (i : Int) (hk : k ≤ n) (hc : n ≤ c) (hi : i = k) : ∀ w : World, (Instr.slice 42 (.slice A n c) none (some (.int .i64 i)) none).run Try.prog w = .ok (.slice A k c) w := by
  intro w
  subst hi
  rw [run_slice_h w 42 A n c (by rw [elem_slices]; exact Try.underlying42) _ _ (by omega) (by omega), elem_slices, size_sl]
  simp only [Result.andThen_ok, sliced]
  by_cases h : c = 0
  · subst h; simp
  · simp only [Nat.sub_zero, if_neg h, Int.toNat_natCast]
    cases A with
    | none => simp
    | some a => simp [Addr.add]

def cutB (y : Bs) : Bs := y.take 255
def tB (L : List Bs) (k : Nat) : Bs := ((L.take k).map cutB).flatMap txt1
def tO (L : List Bs) (k : Nat) : Bs := ((L.take k).map cutB).flatMap opt1
theorem cutB_le (y : Bs) : (cutB y).length ≤ 255 := by unfold cutB; rw [List.length_take]; omega
theorem tB_next {L : List Bs} {k : Nat} (h : k < L.length) : tB L (k + 1) = tB L k ++ [UInt8.ofNat (cutB L[k]).length] ++ cutB L[k] := by
  unfold tB
  rw [List.take_succ_eq_append_getElem h, List.map_append, List.flatMap_append, List.append_assoc]
  congr 1
  simp [txt1]
theorem tO_next {L : List Bs} {k : Nat} (h : k < L.length) : tO L (k + 1) = tO L k ++ [0, 9, 0, UInt8.ofNat (cutB L[k]).length] ++ cutB L[k] := by
  unfold tO
  rw [List.take_succ_eq_append_getElem h, List.map_append, List.flatMap_append, List.append_assoc]
  congr 1
  simp [opt1]
theorem tB_len : ∀ (k : Nat) (L : List Bs), (tB L k).length ≤ 256 * k
  | 0, L => by simp [tB]
  | k + 1, L => by
    have ih := tB_len k L
    by_cases h : k < L.length
    · rw [tB_next h]
      have := cutB_le L[k]
      simp; omega
    · have : tB L (k + 1) = tB L k := by unfold tB; rw [List.take_of_length_le (by omega), List.take_of_length_le (by omega)]
      rw [this]; omega
theorem tO_len : ∀ (k : Nat) (L : List Bs), (tO L k).length ≤ 259 * k
  | 0, L => by simp [tO]
  | k + 1, L => by
    have ih := tO_len k L
    by_cases h : k < L.length
    · rw [tO_next h]
      have := cutB_le L[k]
      simp; omega
    · have : tO L (k + 1) = tO L k := by unfold tO; rw [List.take_of_length_le (by omega), List.take_of_length_le (by omega)]
      rw [this]; omega
theorem cut_all (L : List Bs) (k : Nat) : ∀ x ∈ (L.take k).map cutB, x.length ≤ 255 := by
  intro x hx
  obtain ⟨y, _, rfl⟩ := List.mem_map.1 hx
  exact cutB_le y
theorem can_tB {L : List Bs} {k : Nat} (hk : k ≤ 20) (hkp : 0 < L.length → 0 < k) : canD 16 (tB L k) = decide (0 < L.length) := by
  have hl := tB_len k L
  have ht : txs (tB L k) = true := by
    have := txs_all (cut_all L k) []
    rw [List.append_nil] at this
    unfold tB
    rw [this, txs_nil]
  rw [canD_in (by omega), if_neg (by omega), if_neg (by omega), if_neg (by omega), if_neg (by omega), if_neg (by omega), if_pos rfl]
  unfold texts
  rw [ht, Bool.and_true]
  cases L with
  | nil => simp [tB]
  | cons y L =>
    have := hkp (by simp)
    obtain ⟨k, rfl⟩ : ∃ j, k = j + 1 := ⟨k - 1, by omega⟩
    simp [tB, txt1]
theorem can_tO {L : List Bs} {k : Nat} (hk : k ≤ 20) : canD 41 (tO L k) = true := by
  have hl := tO_len k L
  rw [canD_in (by omega), if_neg (by omega), if_neg (by omega), if_neg (by omega), if_neg (by omega), if_neg (by omega), if_neg (by omega), if_pos rfl]
  have := opts_all (cut_all L k) []
  rw [List.append_nil] at this
  unfold tO
  rw [this, opts_nil]
theorem can_tB1 {L : List Bs} {k : Nat} (hk : k ≤ 20) : canD 16 (tB L k ++ [1]) = false := by
  have hl := tB_len k L
  rw [canD_in (by simp; omega), if_neg (by omega), if_neg (by omega), if_neg (by omega), if_neg (by omega), if_neg (by omega), if_pos rfl]
  unfold texts tB
  rw [txs_all (cut_all L k), txs_one, Bool.and_false]
theorem ofNat_cell {n : Nat} (h : n ≤ 255) : byteV (UInt8.ofNat n) = .int .u8 n := by
  unfold byteV
  simp; omega
theorem Bys.on' {w w1 : World} {A : Option Addr} {l : Bs} (h : Bys w A l) (hB : Below w.heap.size w w1) : Bys w1 A l := h.on hB
/-- Two slices lie apart. -/
def Apart (v u : Value) : Prop := ∀ g, v.ownBlock = some g → u.ownBlock ≠ some g
theorem OwnB.kept_apart {w w' : World} {base : Nat} {u v : Value} {l : Bs} (h : OwnB w base v l) (hg : w.grownBy w' u.ownBlock) (hne : Apart u v) : OwnB w' base v l := by
  refine h.kept hg ?_
  cases hu : u.ownBlock with
  | none => cases hv : v.ownBlock <;> simp
  | some g => exact .inr (hne g hu)
theorem Apart.next {w : World} {base B : Nat} {v v' u : Value} {l : Bs} (h : Apart v u) (hu : OwnB w base u l) (hs : w.heap.size ≤ B) (hv : ∀ k, v'.ownBlock = some k → v.ownBlock = some k ∨ B ≤ k) : Apart v' u := by
  intro g hg he
  rcases hv g hg with h1 | h1
  · exact h g h1 he
  · have := (hu.lt g he).2
    omega
theorem Apart.symm {u v : Value} (h : Apart u v) : Apart v u := fun g h1 h2 => h g h2 h1

attribute [local go_sem ↓] exec_appB

set_option maxHeartbeats 2000000 in
set_option maxRecDepth 100000 in
theorem Texts_any (A : Option Addr) (L : List Bs) (cp : Nat) (w : World) (hS : Byss w A L) (hc : L.length ≤ cp) (hcm : cp ≤ 9223372036854775807) :
    Calls Try.prog 7 #[.slice A L.length cp] w fun e w' => e = .returned (.bool true) ∧ Below w.heap.size w w' := by
  obtain ⟨N, hN⟩ : ∃ N, N = min L.length 20 := ⟨_, rfl⟩
  have hNl : N ≤ L.length := by omega
  have hN20 : N ≤ 20 := by omega
  have hNp : 0 < L.length → 0 < N := by omega
  have hpreS := slice_preS A L.length cp N (min (L.length : Int) 20) hNl hc (by omega)
  have hmax : ∀ d, d ≤ maxLen → d ≤ 9223372036854775807 := fun d h => by unfold maxLen at h; omega
  have HMAX := Lib.hid hmax
  have D1 := Lib.hid (fun B d W (hW : Bys W B (tB L N)) (h1 : (tB L N).length ≤ d) (h2 : d ≤ 9223372036854775807) => by have := dCan_any 16 B _ d W hW h1 h2; rw [can_tB hN20 hNp] at this; exact this)
  have D2 := Lib.hid (fun B d W (hW : Bys W B (tO L N)) (h1 : (tO L N).length ≤ d) (h2 : d ≤ 9223372036854775807) => by have := dCan_any 41 B _ d W hW h1 h2; rw [can_tO hN20] at this; exact this)
  have D3 := Lib.hid (fun B d W (hW : Bys W B (tB L N ++ [1])) (h1 : (tB L N ++ [1]).length ≤ d) (h2 : d ≤ 9223372036854775807) => by have := dCan_any 16 B _ d W hW h1 h2; rw [can_tB1 hN20] at this; exact this)
  have HNL := Lib.hid hNl
  clear hN hmax hNp hNl
  go_enter Try.func7, Try.ntmps7
  go_wp2_with fail
  go_loopw [3, 4, 13] (fun v3 v4 v13 wr => ∃ k : Nat, v13 = .int .i64 k ∧ k ≤ N ∧ OwnB wr w.heap.size v3 (tB L k) ∧ OwnB wr w.heap.size v4 (tO L k) ∧ Hid (Apart v3 v4) ∧ Below w.heap.size w wr) (fun _ _ v13 _ => N - (intOf v13).toNat)
  case atStart => exact ⟨0, rfl, by omega, .inl ⟨rfl, by simp [tB]⟩, .inl ⟨rfl, by simp [tO]⟩, Lib.hid (fun g h => by simp [Value.ownBlock] at h), Below.refl _ _⟩
  case round =>
    obtain ⟨k, rfl, hk, h3, h4, hap, hB⟩ := hrel
    by_cases hlt : k < N
    · have hlt' : (k : Int) < (N : Int) := by omega
      have hkL : k < L.length := by have := HNL.out; omega
      obtain ⟨g, off, rfl, hcs⟩ := id hS (by omega)
      obtain ⟨a, c, hcell0, hBy, hle, hcx, hnil⟩ := hcs k hkL
      have hcell := (World.cell?_of_block (hB.block g (World.block_lt_of_cell? w _ hcell0))).trans hcell0
      clear hcell0
      have hpre := slice_pre a L[k] c (min (L[k]).length 255) (min ((L[k]).length : Int) 255) (by omega) hle (by omega)
      have hByx := hBy.pre (min (L[k]).length 255)
      have hxe : (L[k]).take (min (L[k]).length 255) = cutB L[k] := by
        unfold cutB
        by_cases h : (L[k]).length ≤ 255
        · rw [Nat.min_eq_left h, List.take_length, List.take_of_length_le h]
        · rw [Nat.min_eq_right (by omega)]
      rw [hxe] at hpre hByx
      have HB := Lib.hid (tB_next hkL)
      have HO := Lib.hid (tO_next hkL)
      have hx := cutB_le L[k]
      have lB := tB_len k L
      have lO := tO_len k L
      have hcx2 : (cutB L[k]).length ≤ (L[k]).length := by unfold cutB; rw [List.length_take]; omega
      have hcx' : (cutB L[k]).length ≤ c := by omega
      clear hcx2
      generalize cutB L[k] = x at *
      generalize tB L k = b at *
      generalize tO L k = o at *
      have HC := Lib.hid (ofNat_cell hx)
      have hap' := hap.out
      have hsz := hB.size
      generalize (L[k]).length = n at *
      clear hcs hBy hxe hap hS hpreS hle
      have hxN : ∃ xn, xn = x.length := ⟨_, rfl⟩
      obtain ⟨xn, hxn⟩ := hxN
      rw [← hxn] at hpre HB HO HC hx hcx'
      have HXN := Lib.hid hxn
      clear hxn
      go_wp2_with (at_builtin; refine wpList_append_ownC rfl _ _ rfl w.heap.size _ b rfl (h3.alloc _) ⟨wr.heap.size, 0, none⟩ 1 1 [UInt8.ofNat xn] rfl rfl [.int .u8 xn] (by simp only [List.map_cons, List.map_nil, HC.out]) (World.news_of_block (cs := #[.int .u8 xn]) (t := 5) (fr := (0, 0)) (row_new _ rfl)) (by simp; omega) (by simp; omega) ?_)
      intro v5 w1 h5 hg1 hf1
      have h41 := (h4.alloc _).kept_apart hg1 hap'
      have hap1 := hap'.next h4 (by simp) hf1
      have hB1 : Below w.heap.size w w1 := Below.grown (Below.alloc hB hsz _) hg1 (by simp; omega) (fun g e => (h3.lt g e).1)
      have hsz1 := hB1.size
      clear h3 h4 hg1 hf1 hap' hB hsz hcell
      have hBx1 := hByx.on' hB1
      have hxl : x.length ≤ 255 := by rw [← HXN.out]; exact hx
      go_wp2_with (at_builtin; refine wpList_append_bys rfl _ _ rfl w.heap.size _ _ rfl h5 a c _ x rfl HXN.out hBx1 hnil (by simp; omega) (by omega) ?_)
      intro v6 w2 h6 hg2 hf2
      have h42 := h41.kept_apart hg2 hap1
      have hap2 := (hap1.next h41 (Nat.le_refl _) hf2).symm
      have hB2 : Below w.heap.size w w2 := Below.grown hB1 hg2 (by omega) (fun g e => (h5.lt g e).1)
      have hsz2 := hB2.size
      clear h5 h41 hg2 hf2 hap1 hB1 hsz1 hBx1
      have H6 := Lib.hid (show OwnB w2 w.heap.size v6 (tB L (k + 1)) by rw [HB.out]; simpa using h6)
      clear h6
      go_wp2_with (at_builtin; refine wpList_append_ownC rfl _ _ rfl w.heap.size _ o rfl (h42.alloc _) ⟨w2.heap.size, 0, none⟩ 4 4 [0, 9, 0, UInt8.ofNat xn] rfl rfl [.int .u8 0, .int .u8 9, .int .u8 0, .int .u8 xn] (by simp only [List.map_cons, List.map_nil, HC.out]; rfl) (World.news_of_block (cs := #[.int .u8 0, .int .u8 9, .int .u8 0, .int .u8 xn]) (t := 5) (fr := (0, 0)) (row_new _ rfl)) (by simp; omega) (by simp; omega) ?_)
      intro v7 w3 h7 hg3 hf3
      have h61 := (H6.out.alloc _).kept_apart hg3 hap2
      have hap3 := hap2.next H6.out (by simp) hf3
      have hB3 : Below w.heap.size w w3 := Below.grown (Below.alloc hB2 hsz2 _) hg3 (by simp; omega) (fun g e => (h42.lt g e).1)
      have hsz3 := hB3.size
      have H61 := Lib.hid h61
      clear H6 h61 h42 hg3 hf3 hap2 hB2 hsz2
      have hBx3 := hByx.on' hB3
      go_wp2_with (at_builtin; refine wpList_append_bys rfl _ _ rfl w.heap.size _ _ rfl h7 a c _ x rfl HXN.out hBx3 hnil (by simp; omega) (by omega) ?_)
      intro v8 w4 h8 hg4 hf4
      have h62 := H61.out.kept_apart hg4 hap3
      have hap4 := (hap3.next H61.out (Nat.le_refl _) hf4).symm
      have hB4 : Below w.heap.size w w4 := Below.grown hB3 hg4 (by omega) (fun g e => (h7.lt g e).1)
      have H8 := Lib.hid (show OwnB w4 w.heap.size v8 (tO L (k + 1)) by rw [HO.out]; simpa using h8)
      have H62 := Lib.hid h62
      have HA := Lib.hid hap4
      clear h7 H61 hg4 hf4 hap3 hap4 hB3 hsz3 hBx3 h8 h62
      go_wp2_with fail
      go_roundw
      case rel => exact ⟨k + 1, by go_num, by omega, H62.out, H8.out, HA, hB4⟩
      case measure => simp [intOf]; omega
    · have hlt' : ¬ (k : Int) < (N : Int) := by omega
      obtain rfl : k = N := by omega
      obtain ⟨B3, d3, rfl, q3, hd3, hm3⟩ := h3.bys
      obtain ⟨B4, d4, rfl, q4, hd4, hm4⟩ := h4.bys
      have lB := tB_len k L
      have H3 := Lib.hid h3
      clear h3 h4 hap hS hpreS
      generalize tB L k = b at *
      generalize tO L k = o at *
      have hsz := hB.size
      have l3 : b.length + 1 ≤ 140737488355328 := by omega
      obtain ⟨y, hy⟩ : ∃ y, y = b ++ [1] := ⟨_, rfl⟩
      rw [← hy] at D3
      have hfin : ∀ W, Bys W B3 b → OwnB W w.heap.size (.slice B3 b.length d3) b → Below w.heap.size w W → ∃ v' w', appB (.slice B3 b.length d3) (.slice (some ⟨W.heap.size, 0, none⟩) 1 1) 22 (W.alloc (.cells #[.int .u8 1] 5)) = .ok (.value v') w' ∧ OwnB w' w.heap.size v' y ∧ Below w.heap.size w w' := by
        rw [hy]
        intro W _ hO hBW
        have hsW := hBW.size
        obtain ⟨v', w', h1, h2, h3⟩ := run_append_bys 22 (hO.alloc (.cells #[.int .u8 1] 5)) ⟨W.heap.size, 0, none⟩ 1 1 [1] rfl [.int .u8 1] rfl (World.news_of_block (cs := #[.int .u8 1]) (t := 5) (fr := (0, 0)) (row_new _ rfl)) (by simpa using l3) (by simp; omega)
        exact ⟨v', w', appB_of h1, h2, Below.grown (Below.alloc hBW hsW _) h3 (by simp; omega) (fun g e => (hO.lt g e).1)⟩
      have HF := Lib.hid hfin
      clear hfin l3 lB hy
      by_cases hpos : 0 < L.length
      all_goals
        simp only [hpos, decide_true, decide_false] at D1
        first
          | have hpos2 : (0 : Int) < (L.length : Int) := by omega
          | obtain rfl : L = [] := List.eq_nil_of_length_eq_zero (by omega)
        clear hpos
        go_wp2_with fail
        refine (D1.out B3 d3 _ q3 hd3 (HMAX.out d3 hm3)).mono ?_
        rintro e w1 ⟨rfl, b1⟩
        have q41 := q4.on b1
        have H31 := H3.out.below b1 (Nat.le_refl _)
        have q31 := q3.on b1
        obtain ⟨b1, s1⟩ := Below.next hB hsz b1
        have HH := Lib.hid H31
        clear q3 q4 hB hsz H3 H31
        go_wp2_with fail
        refine (D2.out B4 d4 _ q41 hd4 (HMAX.out d4 hm4)).mono ?_
        rintro e w2 ⟨rfl, b2⟩
        have H32 := HH.out.below b2 (Nat.le_refl _)
        have q32 := q31.on b2
        obtain ⟨b2, s2⟩ := Below.next b1 s1 b2
        obtain ⟨v', w3, ha, ho, b3⟩ := HF.out w2 q32 H32 b2
        obtain ⟨B5, d5, rfl, q5, hd5, hm5⟩ := ho.bys
        have s3 := b3.size
        clear q31 q41 b1 s1 HH H32 q32 b2 s2 HF ho
        go_wp2_with fail
        refine (D3.out B5 d5 _ q5 hd5 (HMAX.out d5 hm5)).mono ?_
        rintro e w4 ⟨rfl, b4⟩
        obtain ⟨b4, s4⟩ := Below.next b3 s3 b4
        go_wp2_with fail
        go_ret
        exact ⟨rfl, b4⟩
end Go.Proofs.Ytbcgpdoljcokgaa
