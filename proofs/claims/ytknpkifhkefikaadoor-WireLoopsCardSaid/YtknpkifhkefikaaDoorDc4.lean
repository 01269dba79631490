/-
  The landed Decode: the message of bytes.
  A header that was written is read as it was. Plain data.
-/
import Derived.Test.YtknpkifhkefikaaDoorDc5
import Derived.Test.YtknpkifhkefikaaDoorDc1
namespace Go.Proofs.YtknpkifhkefikaaDoor
open Go.RowKit Go.Maps
set_option linter.unusedVariables false
set_option maxRecDepth 100000

def zB (b : Bs) (i : Nat) : Int := ((b.getD i 0).toNat : Nat)
def hdB (b : Bs) : Hd := ⟨zB b 0 * 256 + zB b 1, bits .and .i64 (zB b 2 * 256 + zB b 3) 32768 != 0, bits .and .i64 ((zB b 2 * 256 + zB b 3) / 2048) 15, bits .and .i64 (zB b 2 * 256 + zB b 3) 1024 != 0, bits .and .i64 (zB b 2 * 256 + zB b 3) 512 != 0, bits .and .i64 (zB b 2 * 256 + zB b 3) 256 != 0, bits .and .i64 (zB b 2 * 256 + zB b 3) 128 != 0, bits .and .i64 (zB b 2 * 256 + zB b 3) 15⟩
def ctB (b : Bs) (i : Nat) : Nat := (b.getD i 0).toNat * 256 + (b.getD (i + 1) 0).toNat
theorem ctB_int (b : Bs) (i : Nat) : zB b i * 256 + zB b (i + 1) = (ctB b i : Int) := by simp [zB, ctB]
theorem ctB_lt (b : Bs) (i : Nat) : ctB b i ≤ 65535 := by
  have h1 := (b.getD i 0).toNat_lt
  have h2 := (b.getD (i + 1) 0).toNat_lt
  unfold ctB
  omega
def mR (b : Bs) : Rd Parts := msR b (ctB b 4) (ctB b 6) (ctB b 8) (ctB b 10)
theorem hdecB (A : Option Addr) (c : Nat) (b : Bs) (w : World) (hS : Sl w A c b) (h12 : 12 ≤ b.length) (hl : b.length ≤ 65535) (hm : Masks w) (hz : bits .and .i64 (zB b 2 * 256 + zB b 3) 112 = 0) :
    Calls Tryd.prog 48 #[.slice A b.length c] w fun e w' => e = .returned (.tuple #[.agg (hdC (hdB b)), ctV (ctB b 4) (ctB b 6) (ctB b 8) (ctB b 10), .int .i64 0]) ∧ Below w.heap.size w w' := by
  obtain ⟨g, off, rfl, hc⟩ := hS.bys (by omega)
  have ht : Twelve w g off (zB b) := by
    refine ⟨fun i hi => ?_, fun i => by unfold zB; have := (b.getD i 0).toNat_lt; omega, hS.inside _ rfl (by omega)⟩
    have h3 := hc i (by omega)
    rw [h3]
    unfold zB
    rw [List.getD_eq_getElem?_getD, List.getElem?_eq_getElem (by omega), Option.getD_some]
  refine (Decode_long g off b.length c (zB b) w (by omega) (by omega) hm ht hz).mono fun e w' ⟨h1, h2⟩ => ⟨?_, h2⟩
  rw [h1, ctB_int, ctB_int, ctB_int, ctB_int]
  rfl
/-- What Decode comes to. -/
def DecP (w : World) (hd : Hd) : Rd Parts → Ending → World → Prop
  | .ok x _, e, w' => ∃ v, e = .returned (.tuple #[.agg (msL ⟨hd, x.1, x.2.1, x.2.2.1, x.2.2.2⟩ v).toArray, .int .i64 0]) ∧ Ms w' ⟨hd, x.1, x.2.1, x.2.2.1, x.2.2.2⟩ v ∧ Below w.heap.size w w'
  | .no k, e, w' => e = .returned (.tuple #[.agg zeroM, .int .i64 k]) ∧ Below w.heap.size w w'
/-- An answer of the message's, stored. -/
theorem MsgP.out {w : World} {rb : Nat} {hd : Hd} {R : Rd Parts} {e : Ending} {w4 : World} (h : MsgP w rb hd R e w4) : ∃ (C : Array Value) (k : Nat), e = .returned (.tuple #[.agg C, .int .i64 k]) ∧ C.size = 12 ∧ C.all (·.oneCell') = true ∧ Mod (fun k => k = rb) w w4 ∧ ∀ (w0 : World) (g : Nat) (Z : Array Value), w4.heap[g]? = some (.cells Z 27 (0, 0)) → Below w0.heap.size w0 (w4.setRow g C) → DecP w0 hd R (.returned (.tuple #[.agg C, .int .i64 k])) (w4.setRow g C) := by
  cases R with
  | ok x z =>
    obtain ⟨v, rfl, hT, hM⟩ := h
    exact ⟨_, 0, rfl, rfl, ms_one _ v, hM, fun w0 g Z hr hB => ⟨v, rfl, (hT.keptM (T := 27) (by decide) (by decide) (by decide) (mod_setRow w4 g _) hr).ms, hB⟩⟩
  | no k =>
    obtain ⟨rfl, hM⟩ := h
    exact ⟨_, k, rfl, rfl, by simp [Value.oneCell'], hM, fun w0 g Z hr hB => ⟨rfl, hB⟩⟩
set_option maxHeartbeats 2000000 in
set_option maxRecDepth 100000 in
theorem DecodeD_any (A : Option Addr) (c : Nat) (b : Bs) (w : World) (hS : Sl w A c b) (h12 : 12 ≤ b.length) (hl : b.length ≤ 65535) (hm : Masks w) (hz : bits .and .i64 (zB b 2 * 256 + zB b 3) 112 = 0) :
    Calls Tryd.prog 16 #[.slice A b.length c] w (DecP w (hdB b) (mR b)) := by
  obtain ⟨Z, hZ⟩ : ∃ Z : Obj, Z = .cells zeroM 27 (0, 0) := ⟨_, rfl⟩
  have b1 : Below w.heap.size w (w.alloc Z) := Below.alloc (Below.refl _ _) (Nat.le_refl _) _
  have HK := Lib.hid (hdecB A c b (w.alloc Z) (hS.on b1) h12 hl (hm.on b1) hz)
  have r2 : Hid ((w.alloc Z).heap[w.heap.size]? = some Z) := Lib.hid (row_new _ rfl)
  have HB1 := Lib.hid b1
  have HSL := Lib.hid hS
  have HB12 := Lib.hid h12
  obtain ⟨n, hn⟩ : ∃ n, n = b.length := ⟨_, rfl⟩
  rw [← hn] at HK hl ⊢
  have HN := Lib.hid hn
  obtain ⟨hd, hhd⟩ : ∃ h, h = hdB b := ⟨_, rfl⟩
  obtain ⟨R, hR⟩ : ∃ R, R = mR b := ⟨_, rfl⟩
  rw [← hhd] at HK ⊢
  rw [← hR]
  have HR := Lib.hid hR
  have HC4 := Lib.hid (And.intro (ctB_lt b 4) (And.intro (ctB_lt b 6) (And.intro (ctB_lt b 8) (ctB_lt b 10))))
  obtain ⟨n0, hn0⟩ : ∃ k, k = ctB b 4 := ⟨_, rfl⟩
  obtain ⟨n1, hn1⟩ : ∃ k, k = ctB b 6 := ⟨_, rfl⟩
  obtain ⟨n2, hn2⟩ : ∃ k, k = ctB b 8 := ⟨_, rfl⟩
  obtain ⟨n3, hn3⟩ : ∃ k, k = ctB b 10 := ⟨_, rfl⟩
  rw [← hn0, ← hn1, ← hn2, ← hn3] at HK HC4
  have HRM : Hid (R = msR b n0 n1 n2 n3) := Lib.hid (by rw [hR, hn0, hn1, hn2, hn3]; rfl)
  rw [hZ] at HK r2 HB1
  have hl' : ¬ (65535 : Int) < (n : Int) := by omega
  clear hZ b1 hm hS h12 hz hn hhd hR hn0 hn1 hn2 hn3
  go_enter Tryd.func16, Tryd.ntmps16
  go_wp2_with fail
  refine HK.out.mono ?_
  rintro e w2 ⟨rfl, b2⟩
  have R2 := (b2.block _ (by simp)).trans r2.out
  have HB2 := Lib.hid (Below.trans HB1.out (b2.mono HB1.out.size))
  unfold hdC
  obtain ⟨W3, hW3⟩ : ∃ W3, W3 = ((w2.alloc (.cells #[.int .i64 hd.i, .bool hd.r, .int .i64 hd.o, .bool hd.aa, .bool hd.tc, .bool hd.rd, .bool hd.ra, .int .i64 hd.c] 23)).alloc (.cells #[.int .i64 n0, .int .i64 n1, .int .i64 n2, .int .i64 n3] 63)).alloc (.cells #[.slice A n c, .int .i64 12, .int .i64 20] 92) := ⟨_, rfl⟩
  have rH : W3.heap[w2.heap.size]? = some (.cells #[.int .i64 hd.i, .bool hd.r, .int .i64 hd.o, .bool hd.aa, .bool hd.tc, .bool hd.rd, .bool hd.ra, .int .i64 hd.c] 23 (0, 0)) := by
    subst hW3
    exact row_old _ (row_old _ (row_new _ rfl))
  have rC : W3.heap[w2.heap.size + 1]? = some (.cells #[.int .i64 n0, .int .i64 n1, .int .i64 n2, .int .i64 n3] 63 (0, 0)) := by
    subst hW3
    exact row_old _ (row_new (w := w2.alloc (.cells #[.int .i64 hd.i, .bool hd.r, .int .i64 hd.o, .bool hd.aa, .bool hd.tc, .bool hd.rd, .bool hd.ra, .int .i64 hd.c] 23)) _ (by simp))
  have rR : W3.heap[w2.heap.size + 1 + 1]? = some (.cells #[.slice A n c, .int .i64 12, .int .i64 20] 92 (0, 0)) := by
    subst hW3
    exact row_new _ (by simp)
  have b3 : Below w2.heap.size w2 W3 := by
    subst hW3
    exact Below.alloc (Below.alloc (Below.alloc (Below.refl _ _) (Nat.le_refl _) _) (by simp) _) (by simp; omega) _
  have R3 := (b3.block _ (Array.getElem?_eq_some_iff.1 R2).1).trans R2
  have B3 := Below.trans HB2.out (b3.mono HB2.out.size)
  have HB3 := Lib.hid B3
  have hrd : RdM W3 (w2.heap.size + 1 + 1) A c b 12 20 := ⟨by rw [← HN.out]; exact rR, HSL.out.on B3, fun q hq e => by
    have h1 := HSL.out.inside q hq (by have := HB12.out; omega)
    have h2 := HB2.out.size
    omega, HB12.out, by rw [← HN.out]; exact hl⟩
  have MC := messageD_any W3 (w2.heap.size + 1 + 1) A c b n0 n1 n2 n3 hd hrd (by have := HB12.out; omega) HC4.out
  rw [← HRM.out] at MC
  unfold hdC at MC
  have MC := Lib.hid MC
  have HW3 := Lib.hid hW3
  have HSZ := Lib.hid b3.size
  have i23 : Hid ((Tryd.prog.info? 23).map (·.size) = some (#[.int .i64 hd.i, .bool hd.r, .int .i64 hd.o, .bool hd.aa, .bool hd.tc, .bool hd.rd, .bool hd.ra, .int .i64 hd.c] : Array Value).size) := Lib.hid (by kernel_rfl)
  have i63 : Hid ((Tryd.prog.info? 63).map (·.size) = some (#[.int .i64 n0, .int .i64 n1, .int .i64 n2, .int .i64 n3] : Array Value).size) := Lib.hid (by kernel_rfl)
  have RH := Lib.hid rH
  have RC := Lib.hid rC
  have R3 := Lib.hid R3
  clear hW3 rH rC rR b3 R2 HK r2 HB1 b2 hrd B3
  go_upto_region 7 with fail
  rw [← HW3.out]
  go_wp2_with (first
    | (refine wpList_load_row rfl 23 (.tmp 4) rfl w2.heap.size rfl 23 _ (0, 0) _ RH.out Tryd.underlying23 rfl i23.out ?_)
    | (refine wpList_load_row rfl 63 (.tmp 5) rfl (w2.heap.size + 1) rfl 63 _ (0, 0) _ RC.out Tryd.underlying63 rfl i63.out ?_)
    | fail)
  refine MC.out.mono ?_
  intro e w4 hP
  obtain ⟨C, k, rfl, hC, hone, hM4, hD⟩ := hP.out
  have R4 := hM4.row R3.out (by have := HB2.out.size; omega)
  have B4 : Below w.heap.size w w4 := Mod.out HB3.out hM4 HB3.out.size (fun i hi => by have := HB2.out.size; omega)
  have i27 : Hid ((Tryd.prog.info? 27).map (·.size) = some C.size) := Lib.hid (by rw [hC]; exact info_ms)
  have one27 := Lib.hid hone
  have z27 : Hid (zeroM.size = C.size) := Lib.hid (by rw [hC]; rfl)
  obtain ⟨W5, hW5⟩ : ∃ W5, W5 = w4.setRow w.heap.size C := ⟨_, rfl⟩
  have HB5 : Below w.heap.size w W5 := by subst hW5; exact Below.setRow B4 (Nat.le_refl _) _
  have HPN := Lib.hid (hD w w.heap.size zeroM R4 (hW5 ▸ HB5))
  have q0 : (loadVar 27 ⟨w.heap.size, 0, none⟩).run Tryd.prog W5 = .ok (.agg C) W5 := by
    subst hW5
    exact run_loadVar_row _ _ 27 27 C (0, 0) _ (setRow_heap _ _ _ C _ _ R4) Tryd.underlying27 rfl i27.out
  have HQ := Lib.hid q0
  rw [← hW5] at HPN
  have HW5 := Lib.hid hW5
  clear hW5 q0 R3 RH RC MC hP hC hone hM4 hD B4 HB5
  go_wp2_with (first
    | (refine wpList_store_row rfl 27 (.tmp 2) (.tmp 27) rfl w.heap.size C rfl rfl 27 _ R4 i27.out (by first | exact z27.out | exact z27.out.symm) one27.out ?_; rw [← HW5.out])
    | fail)
  have q0 := HQ.out
  refine bodyPost_ret (v := .tuple #[.agg C, .int .i64 k]) (by simp [results, Tryd.results16, asAddr, q0]) rfl ?_
  exact HPN.out
set_option maxHeartbeats 2000000 in
set_option maxRecDepth 100000 in
theorem DecodeD_short (A : Option Addr) (c n : Nat) (w : World) (h12 : n < 12) :
    Calls Tryd.prog 16 #[.slice A n c] w fun e w' => e = .returned (.tuple #[.agg zeroM, .int .i64 20]) ∧ Below w.heap.size w w' := by
  have b1 : Below w.heap.size w (w.alloc (.cells zeroM 27)) := Below.alloc (Below.refl _ _) (Nat.le_refl _) _
  have HK := Lib.hid (fun W => Decode_short A n c W (by omega))
  have HB1 := Lib.hid b1
  have r2 : Hid ((w.alloc (.cells zeroM 27)).heap[w.heap.size]? = some (.cells zeroM 27 (0, 0))) := Lib.hid (row_new _ rfl)
  have hl' : ¬ (65535 : Int) < (n : Int) := by omega
  clear b1 h12
  go_enter Tryd.func16, Tryd.ntmps16
  go_wp2_with fail
  refine (HK.out _).mono ?_
  rintro e w2 ⟨rfl, b2⟩
  have R2 := (b2.block _ (by simp)).trans r2.out
  obtain ⟨W3, hW3⟩ : ∃ W3, W3 = (w2.alloc (.cells #[.int .i64 0, .bool false, .int .i64 0, .bool false, .bool false, .bool false, .bool false, .int .i64 0] 23)).alloc (.cells #[.int .i64 0, .int .i64 0, .int .i64 0, .int .i64 0] 63) := ⟨_, rfl⟩
  have b3 : Below w2.heap.size w2 W3 := by
    subst hW3
    exact Below.alloc (Below.alloc (Below.refl _ _) (Nat.le_refl _) _) (by simp) _
  have R3 := (b3.block _ (Array.getElem?_eq_some_iff.1 R2).1).trans R2
  have B3 := Below.trans HB1.out ((Below.trans b2 (b3.mono b2.size)).mono HB1.out.size)
  have i27 : Hid ((Tryd.prog.info? 27).map (·.size) = some zeroM.size) := Lib.hid info_ms
  have one27 : Hid (zeroM.all (·.oneCell') = true) := Lib.hid (by simp [Value.oneCell'])
  have HB5 : Hid (Below w.heap.size w (W3.setRow w.heap.size zeroM)) := Lib.hid (Below.setRow B3 (Nat.le_refl _) _)
  have q0 : (loadVar 27 ⟨w.heap.size, 0, none⟩).run Tryd.prog (W3.setRow w.heap.size zeroM) = .ok (.agg zeroM) (W3.setRow w.heap.size zeroM) := run_loadVar_row _ _ 27 27 zeroM (0, 0) _ (setRow_heap _ _ _ zeroM _ _ R3) Tryd.underlying27 rfl i27.out
  have HQ := Lib.hid q0
  have HW3 := Lib.hid hW3
  clear b2 b3 R2 B3 q0 hW3
  go_upto_region 4 with fail
  rw [← HW3.out]
  go_wp2_with (first
    | (refine wpList_store_row rfl 27 (.tmp 2) (.tmp 20) rfl w.heap.size zeroM rfl rfl 27 _ R3 i27.out rfl one27.out ?_)
    | fail)
  have q0 := HQ.out
  refine bodyPost_ret (v := .tuple #[.agg zeroM, .int .i64 20]) (by simp [results, Tryd.results16, asAddr, q0]) rfl ?_
  exact ⟨rfl, HB5.out⟩
end Go.Proofs.YtknpkifhkefikaaDoor
namespace Go.Proofs.YtknpkifhkefikaaDoor
open Go.RowKit
set_option linter.unusedVariables false
set_option maxRecDepth 100000

set_option maxRecDepth 100000 in
theorem and112_natD (n : Nat) : n &&& 112 = 16 * (n / 16 % 8) := by
  have h : ∀ a : Fin 256, a.val &&& 112 = 16 * (a.val / 16 % 8) := by decide
  have e : n &&& 112 = (n % 256) &&& 112 := by
    have h255 : n % 256 = n &&& 255 := (Nat.and_two_pow_sub_one_eq_mod n 8).symm
    rw [h255, Nat.and_assoc]; rfl
  rw [e, h ⟨n % 256, Nat.mod_lt _ (by omega)⟩]
  simp only
  omega
theorem and112D (x : Int) (h0 : 0 ≤ x) (h1 : x < 9223372036854775808) : bits .and .i64 x 112 = 16 * (x / 16 % 8) := by
  obtain ⟨a, rfl⟩ := Int.eq_ofNat_of_zero_le h0
  have := and_nat a 112 (by omega) (by omega)
  rw [and112_natD] at this
  simpa using this
theorem and15D (x : Int) (h0 : 0 ≤ x) (h1 : x < 9223372036854775808) : bits .and .i64 x 15 = x % 16 := by
  have := bits_mask .i64 63 (by decide) wraps_i64 4 (by decide) x h0 (by omega)
  simpa using this
theorem bit_ofD (i : Nat) (m x : Int) (hm : ((2 ^ i : Nat) : Int) = m) (hi : 2 ^ i < 9223372036854775808) (h0 : 0 ≤ x) (h1 : x < 9223372036854775808) : bi (bits .and .i64 x m != 0) = x / m % 2 := by
  subst hm
  have hp : (0 : Int) < ((2 ^ i : Nat) : Int) := by have := Nat.two_pow_pos i; omega
  have e := and_bit i hi x h0 h1
  have e2 : (2 : Int) ^ i = ((2 ^ i : Nat) : Int) := by simp
  rw [e2] at e
  rw [e]
  have h2 : x / ((2 ^ i : Nat) : Int) % 2 = 0 ∨ x / ((2 ^ i : Nat) : Int) % 2 = 1 := by omega
  rcases h2 with h2 | h2
  · have hn : (((2 ^ i : Nat) : Int) * 0 != 0) = false := by simp
    rw [h2, hn]; rfl
  · have hn : (((2 ^ i : Nat) : Int) * 1 != 0) = true := by rw [bne_iff_ne]; omega
    rw [h2, hn]; rfl

theorem bi_injD {a b : Bool} (h : bi a = bi b) : a = b := by
  cases a <;> cases b <;> simp_all [bi]
theorem getD_pre {a b : Bs} (h : a <+: b) {i : Nat} (hi : i < a.length) : b.getD i 0 = a.getD i 0 := by
  obtain ⟨c, rfl⟩ := h
  rw [List.getD_eq_getElem?_getD, List.getD_eq_getElem?_getD, List.getElem?_append_left hi]
theorem tw_byte (n : Nat) (h : n < 65536) : ((UInt8.ofNat (n / 256)).toNat : Int) * 256 + ((UInt8.ofNat n).toNat : Int) = n := by
  have h1 : (UInt8.ofNat (n / 256)).toNat = n / 256 := by simp; omega
  have h2 : (UInt8.ofNat n).toNat = n % 256 := by simp
  rw [h1, h2]
  omega
theorem tw_byteN (n : Nat) (h : n < 65536) : (UInt8.ofNat (n / 256)).toNat * 256 + (UInt8.ofNat n).toNat = n := by
  have h1 : (UInt8.ofNat (n / 256)).toNat = n / 256 := by simp; omega
  have h2 : (UInt8.ofNat n).toNat = n % 256 := by simp
  rw [h1, h2]
  omega
set_option maxHeartbeats 4000000 in
theorem flag_bits {o c F : Int} {r aa tc rd ra : Bool} (bO : 0 ≤ o ∧ o ≤ 15) (bC : 0 ≤ c ∧ c ≤ 15) (hF : flags o c r aa tc rd ra = F) : (bits .and .i64 F 32768 != 0) = r ∧ (bits .and .i64 F 1024 != 0) = aa ∧ (bits .and .i64 F 512 != 0) = tc ∧ (bits .and .i64 F 256 != 0) = rd ∧ (bits .and .i64 F 128 != 0) = ra ∧ bits .and .i64 (F / 2048) 15 = o ∧ bits .and .i64 F 15 = c ∧ bits .and .i64 F 112 = 0 := by
  have bF := flags_bd r aa tc rd ra bO bC
  rw [hF] at bF
  have vF := hF
  simp only [flags, flk] at vF
  have dr := bi_bd r
  have da := bi_bd aa
  have dt := bi_bd tc
  have dd := bi_bd rd
  have dx := bi_bd ra
  have k1 := bit_ofD 15 32768 F (by decide) (by decide) (by omega) (by omega)
  have k3 := bit_ofD 10 1024 F (by decide) (by decide) (by omega) (by omega)
  have k4 := bit_ofD 9 512 F (by decide) (by decide) (by omega) (by omega)
  have k5 := bit_ofD 8 256 F (by decide) (by decide) (by omega) (by omega)
  have k6 := bit_ofD 7 128 F (by decide) (by decide) (by omega) (by omega)
  have q1 := and15D (F / 2048) (by omega) (by omega)
  have q2 := and15D F (by omega) (by omega)
  have q3 := and112D F (by omega) (by omega)
  have j1 : F / 32768 % 2 = bi r := by omega
  have j3 : F / 1024 % 2 = bi aa := by omega
  have j4 : F / 512 % 2 = bi tc := by omega
  have j5 : F / 256 % 2 = bi rd := by omega
  have j6 : F / 128 % 2 = bi ra := by omega
  have jo : F / 2048 % 16 = o := by omega
  have jc : F % 16 = c := by omega
  have jz : F / 16 % 8 = 0 := by omega
  rw [j1] at k1
  rw [j3] at k3
  rw [j4] at k4
  rw [j5] at k5
  rw [j6] at k6
  exact ⟨bi_injD k1, bi_injD k3, bi_injD k4, bi_injD k5, bi_injD k6, by rw [q1, jo], by rw [q2, jc], by rw [q3, jz]; rfl⟩
set_option maxHeartbeats 4000000 in
theorem head_back {h : Hd} {n0 n1 n2 n3 : Nat} {b : Bs} (hc : canHd h n0 n1 n2 n3 = true) (hb : headB h n0 n1 n2 n3 <+: b) : hdB b = h ∧ ctB b 4 = n0 ∧ ctB b 6 = n1 ∧ ctB b 8 = n2 ∧ ctB b 10 = n3 ∧ bits .and .i64 (zB b 2 * 256 + zB b 3) 112 = 0 := by
  obtain ⟨b0, b1, b2, b3, bI, bO, bC⟩ := canH_out hc
  have bF := flags_bd h.r h.aa h.tc h.rd h.ra bO bC
  obtain ⟨F, hF⟩ : ∃ F, flags h.o h.c h.r h.aa h.tc h.rd h.ra = F := ⟨_, rfl⟩
  have hl := headB_len h n0 n1 n2 n3
  have g := fun i (hi : i < 12) => getD_pre hb (i := i) (by omega)
  have g0 := g 0 (by omega)
  have g1 := g 1 (by omega)
  have g2 := g 2 (by omega)
  have g3 := g 3 (by omega)
  have g4 := g 4 (by omega)
  have g5 := g 5 (by omega)
  have g6 := g 6 (by omega)
  have g7 := g 7 (by omega)
  have g8 := g 8 (by omega)
  have g9 := g 9 (by omega)
  have g10 := g 10 (by omega)
  have g11 := g 11 (by omega)
  clear g
  unfold headB tw at g0 g1 g2 g3 g4 g5 g6 g7 g8 g9 g10 g11
  rw [hF] at bF g0 g1 g2 g3 g4 g5 g6 g7 g8 g9 g10 g11
  simp only [List.cons_append, List.nil_append, List.getD_cons_zero, List.getD_cons_succ] at g0 g1 g2 g3 g4 g5 g6 g7 g8 g9 g10 g11
  have hFN : ((F.toNat : Nat) : Int) = F := Int.toNat_of_nonneg (by omega)
  have hIN : ((h.i.toNat : Nat) : Int) = h.i := Int.toNat_of_nonneg (by omega)
  have eF : zB b 2 * 256 + zB b 3 = F := by
    unfold zB
    rw [g2, g3, tw_byte _ (by omega), hFN]
  have eI : zB b 0 * 256 + zB b 1 = h.i := by
    unfold zB
    rw [g0, g1, tw_byte _ (by omega), hIN]
  have e4 : ctB b 4 = n0 := by unfold ctB; rw [g4, g5, tw_byteN _ (by omega)]
  have e6 : ctB b 6 = n1 := by unfold ctB; rw [g6, g7, tw_byteN _ (by omega)]
  have e8 : ctB b 8 = n2 := by unfold ctB; rw [g8, g9, tw_byteN _ (by omega)]
  have e10 : ctB b 10 = n3 := by unfold ctB; rw [g10, g11, tw_byteN _ (by omega)]
  obtain ⟨f1, f3, f4, f5, f6, fo, fc, fz⟩ := flag_bits bO bC hF
  refine ⟨?_, e4, e6, e8, e10, by rw [eF]; exact fz⟩
  unfold hdB
  rw [eF, eI, f1, f3, f4, f5, f6, fo, fc]
theorem partsW_max {α : Type} {f : α → Wt → Wt} : ∀ (l : List α) (X Y : Wt), X.b.length ≤ 65535 → partsW f l X = some Y → Y.b.length ≤ 65535
  | [], X, Y, hX, h => by injection h with h; subst h; exact hX
  | x :: l, X, Y, hX, h => by
    unfold partsW at h
    split at h
    · cases h
    · exact partsW_max l _ Y (by omega) h
theorem enc_len {m : Msg} {X : Wt} (hx : encX m = some X) (h0 : (headM m).b.length ≤ 65535) : X.b.length ≤ 65535 := by
  obtain ⟨X1, h1, h2⟩ := Option.bind_eq_some_iff.1 hx
  exact partsW_max _ _ _ (partsW_max _ _ _ h0 h1) h2
/-- What is written of a message is read: the message. -/
theorem enc_back {m : Msg} {X : Wt} (hc : canM m = true) (hx : encX m = some X) : 12 ≤ X.b.length ∧ X.b.length ≤ 65535 ∧ hdB X.b = m.h ∧ mR X.b = .ok (m.q, m.an, m.au, m.ad) X.b.length ∧ bits .and .i64 (zB X.b 2 * 256 + zB X.b 3) 112 = 0 := by
  have h1 := hc
  unfold canM at h1
  simp only [Bool.and_eq_true, List.all_eq_true] at h1
  obtain ⟨hh, hq, hr⟩ := h1
  have hl : (headM m).b.length = 12 := headB_len _ _ _ _ _
  obtain ⟨p1, p2⟩ := parts_read (X := headM m) hq hr (fun n p h => by cases h) hl hx
  obtain ⟨e0, e1, e2, e3, e4, e5⟩ := head_back hh p1
  refine ⟨by have := p1.length_le; omega, enc_len hx (by omega), e0, ?_, e5⟩
  unfold mR
  rw [e1, e2, e3, e4]
  exact p2
end Go.Proofs.YtknpkifhkefikaaDoor
