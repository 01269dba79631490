/-
  Lists of sets the same.
-/
import Derived.Test.YtbeggckkgaoacaaWmC
import Derived.Test.YtbeggckkgaoacaaLs
import Derived.Test.YtbeggckkgaoacaaGe
namespace Go.Proofs.Ytbeggckkgaoacaa
open Go.RowKit
set_option linter.unusedVariables false
set_option maxRecDepth 100000

/-- A set's data, and a bound on how many. -/
def Bsx (w : World) (A : Option Addr) (s : St) : Prop := Byss w A s.ds ∧ s.ds.length ≤ 9223372036854775807
theorem Bsx.on {w w1 : World} {A : Option Addr} {s : St} (h : Bsx w A s) (hB : Below w.heap.size w w1) : Bsx w1 A s := ⟨h.1.on hB, h.2⟩
def Ss (w : World) (A : Option Addr) (L : List St) : Prop := 0 < L.length → ∃ g off, A = some ⟨g, off, none⟩ ∧ ∀ j (h : j < L.length), ∃ a c, Bsx w a L[j] ∧ w.rangeAt g (off + j * 8) (stL L[j] a c)
theorem Ss.on {w w1 : World} {A : Option Addr} {L : List St} (h : Ss w A L) (hB : Below w.heap.size w w1) : Ss w1 A L := fun hn => by
  obtain ⟨g, off, hA, hc⟩ := h hn
  refine ⟨g, off, hA, fun j hj => ?_⟩
  obtain ⟨a, c, h0, h1⟩ := hc j hj
  exact ⟨a, c, h0.on hB, range_on h1 hB⟩
theorem OwnS.ss {w : World} {B n c : Nat} {A : Option Addr} {M : List St} (h : OwnS w B (.slice A n c) M) : Ss w A M := fun hn => by
  obtain ⟨g, c0, a0, d0, e, -⟩ := h.at hn
  injection e with e1 _ _
  refine ⟨g, 0, e1, fun j hj => ?_⟩
  obtain ⟨g', c', a, d, e', -, -, hr, ho⟩ := h.at hj
  injection e' with e2 _ _
  have : g' = g := by
    have := e1.symm.trans e2
    injection this with this
    injection this with this
    exact this.symm
  subst this
  obtain ⟨A', c2, e3, hT, m1, m2, m3⟩ := ho.byss
  injection e3 with f1 f2 f3
  subst f1
  refine ⟨a, d, ⟨hT.byss, by omega⟩, ?_⟩
  rw [Nat.zero_add]
  exact hr
set_option maxHeartbeats 1000000 in
set_option maxRecDepth 100000 in
theorem EqualS8_any (G : FuncId) (hE : ∀ (args : Array Value) (w : World), (callFunc G args).run Try.prog w = .ok (.enter G args) w) (hG : ∀ (a b : St) (A B : Option Addr) (c d : Nat) (W : World), Bsx W A a → Bsx W B b → Calls Try.prog G #[.agg (stC a A c), .agg (stC b B d)] W fun e w' => e = .returned (.bool (sameS a b)) ∧ Below W.heap.size W w')
    (A1 A2 : Option Addr) (L1 L2 : List St) (c1 c2 : Nat) (w : World) (h1 : Ss w A1 L1) (h2 : Ss w A2 L2) (hm : L1.length ≤ 9223372036854775807) :
    Calls Try.prog 36 #[.slice A1 L1.length c1, .slice A2 L2.length c2, .func (.func G) #[] #[]] w fun e w' => e = .returned (.bool (sameL sameS L1 L2)) ∧ Below w.heap.size w w' := by
  by_cases hne : L1.length = L2.length
  · have HT : Hid (sameL sameS L1 L2 = sameL sameS (L1.drop 0) (L2.drop 0)) := Lib.hid rfl
    obtain ⟨n, hn⟩ : ∃ n, n = L1.length := ⟨_, rfl⟩
    rw [← hne, ← hn]
    rw [← hn] at hm
    have E1 := Lib.hid hn
    have E2 := Lib.hid (hn.trans hne)
    have HGG := Lib.hid hG
    clear hn hne hG
    go_enter Try.func36, Try.ntmps36
    go_wp2_with fail
    go_loopw [17] (fun v wr => ∃ k : Nat, v = .int .i64 k ∧ k ≤ n ∧ Below w.heap.size w wr ∧ Hid (sameL sameS L1 L2 = sameL sameS (L1.drop k) (L2.drop k))) (fun v _ => n - (intOf v).toNat)
    case atStart => exact ⟨0, rfl, by omega, Below.refl _ _, HT⟩
    case round =>
      clear HT
      obtain ⟨k, rfl, hk, hB, hT⟩ := hrel
      by_cases hlt : k < n
      · have e1 := E1.out
        have e2 := E2.out
        obtain ⟨g1, o1, rfl, hc1⟩ := id h1 (by omega)
        obtain ⟨g2, o2, rfl, hc2⟩ := id h2 (by omega)
        have k1 : k < L1.length := by omega
        have k2 : k < L2.length := by omega
        obtain ⟨a1, d1, D1, R1⟩ := hc1 k k1
        obtain ⟨a2, d2, D2, R2⟩ := hc2 k k2
        have hT2 := hT.out
        rw [sameL_at k1 k2] at hT2
        have hlt' : (k : Int) < (n : Int) := by omega
        obtain ⟨x1, hx1⟩ : ∃ x, x = L1[k] := ⟨_, rfl⟩
        obtain ⟨x2, hx2⟩ : ∃ x, x = L2[k] := ⟨_, rfl⟩
        rw [← hx1] at D1 R1 hT2
        rw [← hx2] at D2 R2 hT2
        have HT := Lib.hid hT2
        have R1' := range_on R1 hB
        have R2' := range_on R2 hB
        have hsz := hB.size
        have hB' := hB
        have HC := Lib.hid (fun W (b1 : Bsx W a1 x1) (b2 : Bsx W a2 x2) => HGG.out x1 x2 a1 a2 d1 d2 W b1 b2)
        unfold stC at HC
        have i1 : Hid ((Try.prog.info? 29).map (·.size) = some (stL x1 a1 d1).toArray.size) := Lib.hid info_st
        have i2 : Hid ((Try.prog.info? 29).map (·.size) = some (stL x2 a2 d2).toArray.size) := Lib.hid info_st
        have j1 : Hid ((Try.prog.info? 29).map (·.size) = some (stL x1 a1 d1).length) := Lib.hid info_st
        have j2 : Hid ((Try.prog.info? 29).map (·.size) = some (stL x2 a2 d2).length) := Lib.hid info_st
        have one1 := Lib.hid (st_one x1 a1 d1)
        have one2 := Lib.hid (st_one x2 a2 d2)
        unfold stC at one1 one2
        have z1 : Hid ((stZ).size = (stL x1 a1 d1).toArray.size) := Lib.hid rfl
        have z2 : Hid ((stZ).size = (stL x2 a2 d2).toArray.size) := Lib.hid rfl
        have B1 := D1
        have B2 := D2
        clear hx1 hx2 hT hT2 hc1 hc2 k1 k2 e1 e2 R1 R2 D1 D2 HGG
        generalize stL x1 a1 d1 = l1 at *
        generalize stL x2 a2 d2 = l2 at *
        have rZ := row_new (w := wr) (k := wr.heap.size) (.cells stZ 29 (0, 0)) rfl
        have r8 := setRow_heap _ _ _ l1.toArray _ _ rZ
        have q1 : Below wr.heap.size wr ((wr.alloc (.cells stZ 29)).setRow wr.heap.size l1.toArray) := Below.setRow (Below.alloc (Below.refl _ _) (Nat.le_refl _) _) (Nat.le_refl _) _
        have R2'' := range_on R2' q1
        have sz1 : ((wr.alloc (.cells stZ 29)).setRow wr.heap.size l1.toArray).heap.size = wr.heap.size + 1 := by rw [size_setRow]; simp
        rw [stZ_lit] at rZ r8 q1 R2'' sz1
        obtain ⟨W1, hW1⟩ : ∃ W1, W1 = (wr.alloc (.cells #[.string ⟨#[]⟩, .int .i64 0, .int .i64 0, .int .i64 0, .int .i64 0, .int .i64 0, .string ⟨#[]⟩, .slice none 0 0] 29)).setRow wr.heap.size l1.toArray := ⟨_, rfl⟩
        rw [← hW1] at r8 q1 R2'' sz1
        have rY := row_new (w := W1) (k := W1.heap.size) (.cells #[.string ⟨#[]⟩, .int .i64 0, .int .i64 0, .int .i64 0, .int .i64 0, .int .i64 0, .string ⟨#[]⟩, .slice none 0 0] 29 (0, 0)) rfl
        have r9 := setRow_heap _ _ _ l2.toArray _ _ rY
        have q2 : Below W1.heap.size W1 ((W1.alloc (.cells #[.string ⟨#[]⟩, .int .i64 0, .int .i64 0, .int .i64 0, .int .i64 0, .int .i64 0, .string ⟨#[]⟩, .slice none 0 0] 29)).setRow W1.heap.size l2.toArray) := Below.setRow (Below.alloc (Below.refl _ _) (Nat.le_refl _) _) (Nat.le_refl _) _
        have r8' := (q2.block _ (by omega)).trans r8
        have qq := Below.trans q1 (q2.mono q1.size)
        have qw := Below.trans hB (qq.mono hsz)
        obtain ⟨W2, hW2⟩ : ∃ W2, W2 = (W1.alloc (.cells #[.string ⟨#[]⟩, .int .i64 0, .int .i64 0, .int .i64 0, .int .i64 0, .int .i64 0, .string ⟨#[]⟩, .slice none 0 0] 29)).setRow W1.heap.size l2.toArray := ⟨_, rfl⟩
        rw [← hW2] at r9 r8' qq qw
        have B1' := (B1.on hB').on qq
        have B2' := (B2.on hB').on qq
        have HW1 := Lib.hid hW1
        have HW2 := Lib.hid hW2
        clear r8 q1 q2 sz1 hW1 hW2 B1 B2 qq hB hB' hsz h1 h2
        go_wp2_with (first
          | (refine wpList_load_mid rfl 29 (.tmp 20) rfl g1 (o1 + k * 8) rfl l1 _ R1' Try.underlying29 rfl j1.out ?_)
          | (refine wpList_load_mid rfl 29 (.tmp 24) rfl g2 (o2 + k * 8) rfl l2 _ R2'' Try.underlying29 rfl j2.out ?_)
          | (refine wpList_store_row rfl 29 (.tmp 8) (.tmp 21) rfl wr.heap.size l1.toArray rfl rfl 29 _ rZ i1.out (by first | exact z1.out | exact z1.out.symm) one1.out ?_; rw [← HW1.out])
          | (refine wpList_store_row rfl 29 (.tmp 9) (.tmp 25) rfl W1.heap.size l2.toArray rfl rfl 29 _ rY i2.out (by first | exact z2.out | exact z2.out.symm) one2.out ?_; rw [← HW2.out])
          | (refine wpList_load_row rfl 29 (.tmp 8) rfl wr.heap.size rfl 29 l1.toArray (0, 0) _ r8' Try.underlying29 rfl i1.out ?_)
          | (refine wpList_load_row rfl 29 (.tmp 9) rfl W1.heap.size rfl 29 l2.toArray (0, 0) _ r9 Try.underlying29 rfl i2.out ?_)
          | fail)
        refine (HC.out _ B1' B2').mono ?_
        rintro e w3 ⟨rfl, b3⟩
        have bb := Below.trans qw (b3.mono qw.size)
        cases hv : sameS x1 x2 with
        | true =>
          have HT2 := Lib.hid (show sameL sameS L1 L2 = sameL sameS (L1.drop (k + 1)) (L2.drop (k + 1)) by rw [HT.out, hv]; rfl)
          clear HT hv
          go_wp2_with fail
          go_roundw
          case rel => exact ⟨k + 1, by go_num, by omega, bb, HT2⟩
          case measure => simp [intOf]; omega
        | false =>
          have HT2 := Lib.hid (show sameL sameS L1 L2 = false by rw [HT.out, hv]; rfl)
          clear HT hv
          go_wp2_with fail
          go_ret
          exact ⟨by rw [HT2.out]; rfl, bb⟩
      · obtain rfl : k = n := by omega
        have HT := Lib.hid (hT.out.trans (sameL_end (by have := E1.out; omega) (by have := E2.out; omega)))
        clear hT h1 h2
        go_wp2_with fail
        go_ret
        exact ⟨by rw [HT.out]; rfl, hB⟩
  · have HT := Lib.hid (sameL_len (f := sameS) hne)
    have hne' : ((L1.length : Int) != (L2.length : Int)) = true := by rw [bne_iff_ne]; omega
    clear hG hE h1 h2 hne
    generalize L1.length = n1 at *
    generalize L2.length = n2 at *
    go_enter Try.func36, Try.ntmps36
    go_wp2_with fail
    go_ret
    exact ⟨by rw [HT.out]; rfl, Below.refl _ _⟩

theorem SameSets_any (A1 A2 : Option Addr) (L1 L2 : List St) (c1 c2 : Nat) (w : World) (h1 : Ss w A1 L1) (h2 : Ss w A2 L2) (hm : L1.length ≤ 9223372036854775807) :
    Calls Try.prog 11 #[.slice A1 L1.length c1, .slice A2 L2.length c2] w fun e w' => e = .returned (.bool (sameL sameS L1 L2)) ∧ Below w.heap.size w w' := by
  have E := Lib.hid (EqualS8_any 21 (run_enter Try.func21 (by kernel_rfl) (by kernel_rfl)) (fun a b A B c d W k1 k2 => dSame_any a b A B c d W k1.1 k2.1 k1.2) A1 A2 L1 L2 c1 c2 w h1 h2 hm)
  clear h1 h2 hm
  generalize sameL sameS L1 L2 = r at *
  go_enter Try.func11, Try.ntmps11
  go_wp2_with fail
  refine E.out.mono ?_
  rintro e w1 ⟨rfl, b1⟩
  go_wp2_with fail
  go_ret
  exact ⟨rfl, b1⟩
end Go.Proofs.Ytbeggckkgaoacaa
