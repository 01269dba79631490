/-
  The document's Can of a set, its size.
-/
import Derived.Test.YtbeggckkgaoacaaEnO
namespace Go.Proofs.Ytbeggckkgaoacaa
open Go.RowKit
set_option linter.unusedVariables false
set_option maxRecDepth 100000
attribute [local go_sem ↓] exec_loadSt

theorem dShort_any (n : Int) (w : World) : Calls Try.prog 66 #[.int .i64 n] w fun e w' => e = .returned (.bool (shortN n)) ∧ w = w' := by
  by_cases h0 : 0 ≤ n
  · by_cases h1 : n ≤ 65535
    · have HR : Hid (shortN n = true) := Lib.hid (by simp [shortN, h0, h1])
      go_enter Try.func66, Try.ntmps66
      go_wp2_with fail
      go_ret
      exact ⟨by rw [HR.out]; rfl, rfl⟩
    · have HR : Hid (shortN n = false) := Lib.hid (by simp [shortN, h1])
      go_enter Try.func66, Try.ntmps66
      go_wp2_with fail
      go_ret
      exact ⟨by rw [HR.out]; rfl, rfl⟩
  · have HR : Hid (shortN n = false) := Lib.hid (by simp [shortN, h0])
    go_enter Try.func66, Try.ntmps66
    go_wp2_with fail
    go_ret
    exact ⟨by rw [HR.out]; rfl, rfl⟩

theorem encB_len (s : St) : (encB false s).length = 19 + s.n.length + s.z.length + dsz s.ds := by
  simp [encB, headB, tailB, partB, bigs, big_len, dsz]
  omega
theorem fits_len (s : St) : fitsS s = decide ((encB false s).length ≤ 4000) := by rw [encB_len]; rfl
theorem canD_len {t : Int} {x : Bs} (h : canD t x = true) : x.length ≤ 65535 := by
  by_cases hl : 65535 < x.length
  · rw [canD_far (.inr (.inr hl))] at h; cases h
  · omega
theorem canS_n {s : St} (h : can s.n = false) : canS s = false := by simp [canS, canKeyS, h]
theorem canS_t {s : St} (h : shortN s.t = false) : canS s = false := by simp [canS, canKeyS, h]
theorem canS_c {s : St} (h : shortN s.c = false) : canS s = false := by simp [canS, canKeyS, h]
theorem canS_1 {s : St} (h : s.rk < 1) : canS s = false := by
  have : canTimeS s = false := by simp [canTimeS]; omega
  simp [canS, this]
theorem canS_2 {s : St} (h : 3 < s.rk) : canS s = false := by
  have : canTimeS s = false := by simp [canTimeS]; omega
  simp [canS, this]
theorem canS_3 {s : St} (h : s.ex < 0) : canS s = false := by
  have : canTimeS s = false := by simp [canTimeS]; omega
  simp [canS, this]
theorem canS_4 {s : St} (h : 1099511627776 < s.ex) : canS s = false := by
  have : canTimeS s = false := by simp [canTimeS]; omega
  simp [canS, this]
theorem canS_l {s : St} (h : 4000 < s.ds.length) : canS s = false := by
  have h1 := dsz_ge s.ds
  have : fitsS s = false := by simp [fitsS]; omega
  simp [canS, this]
theorem canS_k {s : St} (h : kindS s = false) : canS s = false := by simp [canS, h]
theorem canS_end {s : St} (h1 : can s.n = true) (h2 : shortN s.t = true) (h3 : shortN s.c = true) (a : 1 ≤ s.rk) (b : s.rk ≤ 3) (c : 0 ≤ s.ex) (d : s.ex ≤ 1099511627776) (h : kindS s = true) : canS s = decide ((encB false s).length ≤ 4000) := by
  have e1 : canKeyS s = true := by simp [canKeyS, h1, h2, h3]
  have e2 : canTimeS s = true := by simp [canTimeS, a, b, c, d]
  simp [canS, e1, e2, h, fits_len]
theorem kind_0 {s : St} (h : s.kd = 0) (hz : s.z = []) (ht : s.t ≠ 0) (hl : 0 < s.ds.length) (hd : s.ds.all (canD s.t) = true) : kindS s = true := by
  rw [kindS_0 h]; simp [hz, ht, dataS, hd, hl]
theorem kind_z {s : St} (h : s.kd = 0) (hz : s.z ≠ []) : kindS s = false := by rw [kindS_0 h]; simp [hz]
theorem kind_l {s : St} (h : s.kd = 0) (hz : s.ds.length = 0) : kindS s = false := by rw [kindS_0 h]; simp [dataS, hz]
theorem kind_t {s : St} (h : s.kd = 0) (hz : s.t = 0) : kindS s = false := by rw [kindS_0 h]; simp [hz]
theorem kind_d {s : St} (h : s.kd = 0) (hz : s.ds.all (canD s.t) = false) : kindS s = false := by rw [kindS_0 h]; simp [dataS, hz]
theorem kind_12 {s : St} (h : s.kd = 1 ∨ s.kd = 2) : kindS s = ((s.t == 0) == (s.kd == 2) && soaS s) := by
  rcases h with h | h
  · rw [kindS_1 h, h]
    by_cases ht : s.t = 0
    · simp [ht]
    · simp [bne]
  · rw [kindS_2 h, h]
    by_cases ht : s.t = 0
    · simp [ht]
    · simp
theorem wr_of {s : St} (h1 : can s.n = true) (h2 : shortN s.t = true) (h3 : shortN s.c = true) (a : 1 ≤ s.rk) (b : s.rk ≤ 3) (c : 0 ≤ s.ex) (d : s.ex ≤ 1099511627776) (hk : 0 ≤ s.kd ∧ s.kd ≤ 2) (hz : s.z.length ≤ 255) (hl : s.ds.length ≤ 4000) (hd : ∀ x ∈ s.ds, x.length ≤ 65535) : Wr s := by
  simp [shortN] at h2 h3
  exact ⟨(can_out h1).1, hz, ⟨s.t.toNat, by omega, by omega⟩, ⟨s.c.toNat, by omega, by omega⟩, ⟨s.rk.toNat, by omega, by omega⟩, ⟨s.kd.toNat, by omega, by omega⟩, ⟨s.ex.toNat, by omega, by omega⟩, hl, hd⟩

set_option maxHeartbeats 1000000 in
theorem dSize_any (s : St) (A : Option Addr) (c : Nat) (w : World) (hS : Byss w A s.ds) (hw : Wr s) : Calls Try.prog 67 #[.agg (stC s A c)] w fun e w' => e = .returned (.int .i64 (encB false s).length) ∧ Below w.heap.size w w' := by
  have r1 := row_new (w := w) (k := w.heap.size) (.cells (stC s A c) 29 (0, 0)) rfl
  have b0 : Below w.heap.size w (w.alloc (.cells (stC s A c) 29 (0, 0))) := Below.alloc (Below.refl _ _) (Nat.le_refl _) _
  have hS0 := hS.on b0
  have E : Hid (Calls Try.prog 81 #[.agg #[.bool false, .string (bs s.n), .int .i64 s.t, .int .i64 s.c, .int .i64 s.rk, .int .i64 s.kd, .int .i64 s.ex, .string (bs s.z), .slice A s.ds.length c]] (w.alloc (.cells (stC s A c) 29 (0, 0))) fun e w' => ∃ v, e = .returned v ∧ OwnB w' (w.alloc (.cells (stC s A c) 29 (0, 0))).heap.size v (encB false s) ∧ Below (w.alloc (.cells (stC s A c) 29 (0, 0))).heap.size (w.alloc (.cells (stC s A c) 29 (0, 0))) w') := Lib.hid (dBytes_any false s A c _ hS0 hw)
  have L1 : loadSt (.pointer (some ⟨w.heap.size, 0, none⟩)) (w.alloc (.cells (stC s A c) 29 (0, 0))) = .ok (.value (.agg #[.string (bs s.n), .int .i64 s.t, .int .i64 s.c, .int .i64 s.rk, .int .i64 s.kd, .int .i64 s.ex, .string (bs s.z), .slice A s.ds.length c])) (w.alloc (.cells (stC s A c) 29 (0, 0))) := loadSt_st r1
  generalize encB false s = B at *
  generalize stC s A c = C at *
  clear r1 hS hS0 hw
  generalize s.ds.length = n at *
  go_enter Try.func67, Try.ntmps67
  go_wp2_with fail
  refine E.out.mono ?_
  rintro e w1 ⟨v, rfl, ho, b1⟩
  obtain ⟨A1, c1, rfl, -, -, -⟩ := ho.bys
  have bb := Below.trans b0 (b1.mono b0.size)
  clear ho b1 E
  go_wp2_with fail
  go_ret
  exact ⟨rfl, bb⟩

set_option maxHeartbeats 8000000 in
set_option maxRecDepth 100000 in
theorem dCan8_any (s : St) (A : Option Addr) (c : Nat) (w : World) (hS : Byss w A s.ds) (hm : s.ds.length ≤ 9223372036854775806) : Calls Try.prog 41 #[.agg (stC s A c)] w fun e w' => e = .returned (.bool (canS s)) ∧ Below w.heap.size w w' := by
  have r1 := row_new (w := w) (k := w.heap.size) (.cells (stC s A c) 29 (0, 0)) rfl
  have b0 : Below w.heap.size w (w.alloc (.cells (stC s A c) 29 (0, 0))) := Below.alloc (Below.refl _ _) (Nat.le_refl _) _
  have hS0 := Lib.hid (hS.on b0)
  have I := Lib.hid (show (Try.prog.info? 29).map (·.size) = some (stC s A c).size from info_st)
  have CE := Lib.hid (fun (W : World) (h : W.heap[w.heap.size]? = some (.cells (stC s A c) 29 (0, 0))) => st_cell h)
  have ES := Lib.hid (fun W (hW : Byss W A s.ds) (hw : Wr s) => dSize_any s A c W hW hw)
  have E1 := Lib.hid (fun W => rCan_any s.n W)
  have EZ := Lib.hid (fun W => rCan_any s.z W)
  have E2 := Lib.hid (fun W => dShort_any s.t W)
  have E3 := Lib.hid (fun W => dShort_any s.c W)
  have X := Lib.hid (show ∀ (P : Prop), P → P from fun _ h => h)
  have P_canS_n := Lib.hid (@canS_n s)
  have P_canS_t := Lib.hid (@canS_t s)
  have P_canS_c := Lib.hid (@canS_c s)
  have P_canS_1 := Lib.hid (@canS_1 s)
  have P_canS_2 := Lib.hid (@canS_2 s)
  have P_canS_3 := Lib.hid (@canS_3 s)
  have P_canS_4 := Lib.hid (@canS_4 s)
  have P_canS_l := Lib.hid (@canS_l s)
  have P_canS_k := Lib.hid (@canS_k s)
  have P_canS_end := Lib.hid (@canS_end s)
  have P_kind_0 := Lib.hid (@kind_0 s)
  have P_kind_z := Lib.hid (@kind_z s)
  have P_kind_l := Lib.hid (@kind_l s)
  have P_kind_t := Lib.hid (@kind_t s)
  have P_kind_d := Lib.hid (@kind_d s)
  have P_kind_12 := Lib.hid (@kind_12 s)
  have P_wr_of := Lib.hid (@wr_of s)
  have P_n := Lib.hid (@kindS_n s)
  have P_so := Lib.hid (fun x h => @soaS_of s x h)
  have P_sl := Lib.hid (@soaS_len s)
  have P_sz : Hid (can s.z = false → soaS s = false) := Lib.hid (fun h => by simp [soaS, h])
  clear X
  generalize canS s = R at *
  generalize kindS s = K at *
  generalize soaS s = SO at *
  generalize encB false s = B at *
  generalize hWr : Wr s = WR at *
  clear hWr
  generalize s.n = sn at *
  generalize s.t = t at *
  generalize s.c = sc at *
  generalize s.rk = rk at *
  generalize s.kd = kd at *
  generalize s.ex = ex at *
  generalize s.z = z at *
  generalize s.ds = L at *
  generalize stC s A c = C at *
  obtain ⟨n, hn⟩ : ∃ n, n = L.length := ⟨_, rfl⟩
  rw [← hn] at CE hm P_canS_l P_kind_0 P_kind_l P_wr_of P_sl
  have HN := Lib.hid hn
  clear hn hS
  have lt1 : w.heap.size < (w.alloc (.cells C 29)).heap.size := by simp
  obtain ⟨c0, c1, c2, c3, c4, c5, c6, c7⟩ := CE.out _ r1
  go_enter Try.func41, Try.ntmps41
  go_wp2_with fail
  generalize w.alloc (.cells C 29) = W0 at *
  refine (E1.out _).mono ?_
  rintro e w1 ⟨rfl, rfl⟩
  cases h1 : can sn with
  | false =>
    have HF := Lib.hid (P_canS_n.out h1)
    clear h1 P_canS_n P_canS_t P_canS_c P_canS_1 P_canS_2 P_canS_3 P_canS_4 P_canS_l P_canS_k P_canS_end P_kind_0 P_kind_z P_kind_l P_kind_t P_kind_d P_kind_12 P_wr_of P_n P_so P_sl P_sz
    go_wp2_with fail
    go_ret
    exact ⟨by rw [HF.out]; rfl, b0⟩
  | true =>
  have H1 := Lib.hid h1
  clear h1
  go_wp2_with fail
  refine (E2.out _).mono ?_
  rintro e w2 ⟨rfl, rfl⟩
  cases h2 : shortN t with
  | false =>
    have HF := Lib.hid (P_canS_t.out h2)
    clear h2 P_canS_n P_canS_t P_canS_c P_canS_1 P_canS_2 P_canS_3 P_canS_4 P_canS_l P_canS_k P_canS_end P_kind_0 P_kind_z P_kind_l P_kind_t P_kind_d P_kind_12 P_wr_of P_n P_so P_sl P_sz
    go_wp2_with fail
    go_ret
    exact ⟨by rw [HF.out]; rfl, b0⟩
  | true =>
  have H2 := Lib.hid h2
  clear h2
  go_wp2_with fail
  refine (E3.out _).mono ?_
  rintro e w2 ⟨rfl, rfl⟩
  cases h3 : shortN sc with
  | false =>
    have HF := Lib.hid (P_canS_c.out h3)
    clear h3 P_canS_n P_canS_t P_canS_c P_canS_1 P_canS_2 P_canS_3 P_canS_4 P_canS_l P_canS_k P_canS_end P_kind_0 P_kind_z P_kind_l P_kind_t P_kind_d P_kind_12 P_wr_of P_n P_so P_sl P_sz
    go_wp2_with fail
    go_ret
    exact ⟨by rw [HF.out]; rfl, b0⟩
  | true =>
  have H3 := Lib.hid h3
  clear h3
  by_cases g0 : rk < 1
  · have HF := Lib.hid (P_canS_1.out g0)
    have gg : (rk < 1) := g0
    clear P_canS_n P_canS_t P_canS_c P_canS_1 P_canS_2 P_canS_3 P_canS_4 P_canS_l P_canS_k P_canS_end P_kind_0 P_kind_z P_kind_l P_kind_t P_kind_d P_kind_12 P_wr_of P_n P_so P_sl P_sz
    go_wp2_with fail
    go_ret
    exact ⟨by rw [HF.out]; rfl, b0⟩
  replace g0 : 1 ≤ rk := by omega
  by_cases g1 : 3 < rk
  · have HF := Lib.hid (P_canS_2.out g1)
    have gg : (3 < rk) := g1
    clear P_canS_n P_canS_t P_canS_c P_canS_1 P_canS_2 P_canS_3 P_canS_4 P_canS_l P_canS_k P_canS_end P_kind_0 P_kind_z P_kind_l P_kind_t P_kind_d P_kind_12 P_wr_of P_n P_so P_sl P_sz
    go_wp2_with fail
    go_ret
    exact ⟨by rw [HF.out]; rfl, b0⟩
  replace g1 : rk ≤ 3 := by omega
  by_cases g2 : ex < 0
  · have HF := Lib.hid (P_canS_3.out g2)
    have gg : (ex < 0) := g2
    clear P_canS_n P_canS_t P_canS_c P_canS_1 P_canS_2 P_canS_3 P_canS_4 P_canS_l P_canS_k P_canS_end P_kind_0 P_kind_z P_kind_l P_kind_t P_kind_d P_kind_12 P_wr_of P_n P_so P_sl P_sz
    go_wp2_with fail
    go_ret
    exact ⟨by rw [HF.out]; rfl, b0⟩
  replace g2 : 0 ≤ ex := by omega
  by_cases g3 : 1099511627776 < ex
  · have HF := Lib.hid (P_canS_4.out g3)
    have gg : (1099511627776 < ex) := g3
    clear P_canS_n P_canS_t P_canS_c P_canS_1 P_canS_2 P_canS_3 P_canS_4 P_canS_l P_canS_k P_canS_end P_kind_0 P_kind_z P_kind_l P_kind_t P_kind_d P_kind_12 P_wr_of P_n P_so P_sl P_sz
    go_wp2_with fail
    go_ret
    exact ⟨by rw [HF.out]; rfl, b0⟩
  replace g3 : ex ≤ 1099511627776 := by omega
  by_cases g4 : 4000 < n
  · have HF := Lib.hid (P_canS_l.out g4)
    have gg : ((4000 : Int) < (n : Int)) := by omega
    clear P_canS_n P_canS_t P_canS_c P_canS_1 P_canS_2 P_canS_3 P_canS_4 P_canS_l P_canS_k P_canS_end P_kind_0 P_kind_z P_kind_l P_kind_t P_kind_d P_kind_12 P_wr_of P_n P_so P_sl P_sz
    go_wp2_with fail
    go_ret
    exact ⟨by rw [HF.out]; rfl, b0⟩
  replace g4 : n ≤ 4000 := by omega
  have g5 : (n : Int) ≤ 4000 := by omega
  have WK := Lib.hid (fun hk hz hd => P_wr_of.out H1.out H2.out H3.out g0 g1 g2 g3 hk hz g4 hd)
  have WE := Lib.hid (fun h => P_canS_end.out H1.out H2.out H3.out g0 g1 g2 g3 h)
  clear P_canS_n P_canS_t P_canS_c P_canS_1 P_canS_2 P_canS_3 P_canS_4 P_canS_l P_canS_end P_wr_of E1 E2 E3
  by_cases k0 : kd = 0
  · subst k0
    by_cases hz : z = []
    case neg =>
      have HF := Lib.hid (P_canS_k.out (P_kind_z.out rfl hz))
      have z1 : (z == []) = false := by simp [hz]
      have z2 := bs_toList z
      clear P_canS_k P_kind_0 P_kind_z P_kind_l P_kind_t P_kind_d P_kind_12 P_n P_so P_sl P_sz
      obtain ⟨b, zz, rfl⟩ : ∃ b zz, z = b :: zz := by
        cases z with
        | nil => exact absurd rfl hz
        | cons b zz => exact ⟨b, zz, rfl⟩
      clear hz z1 z2
      go_wp2_with fail
      go_ret
      exact ⟨by rw [HF.out]; rfl, b0⟩
    subst hz
    by_cases hl : n = 0
    · have HF := Lib.hid (P_canS_k.out (P_kind_l.out rfl hl))
      subst hl
      clear P_canS_k P_kind_0 P_kind_z P_kind_l P_kind_t P_kind_d P_kind_12 P_n P_so P_sl P_sz
      go_wp2_with fail
      go_ret
      exact ⟨by rw [HF.out]; rfl, b0⟩
    have hl2 : ((n : Int) == 0) = false := by rw [beq_eq_false_iff_ne]; omega
    by_cases ht : t = 0
    · have HF := Lib.hid (P_canS_k.out (P_kind_t.out rfl ht))
      subst ht
      clear P_canS_k P_kind_0 P_kind_z P_kind_l P_kind_t P_kind_d P_kind_12 P_n P_so P_sl P_sz
      go_wp2_with fail
      go_ret
      exact ⟨by rw [HF.out]; rfl, b0⟩
    have ht2 : (t == 0) = false := by simp [ht]
    have PD := Lib.hid (fun h => P_canS_k.out (P_kind_d.out rfl h))
    have PA := Lib.hid (fun h => P_kind_0.out rfl rfl ht (by omega) h)
    have HA : Hid (L.all (canD t) = (L.drop 0).all (canD t)) := Lib.hid rfl
    clear P_canS_k P_kind_0 P_kind_z P_kind_l P_kind_t P_kind_d P_kind_12 P_n P_so P_sl P_sz ht
    have W0r := Lib.hid r1
    have W0b := Lib.hid b0
    go_wp2_with fail
    clear hl2 ht2
    go_loopw [68] (fun i wr => ∃ k : Nat, i = .int .i64 k ∧ k ≤ n ∧ Below W0.heap.size W0 wr ∧ Hid (L.all (canD t) = (L.drop k).all (canD t))) (fun i _ => n - (intOf i).toNat)
    case atStart => exact ⟨0, rfl, by omega, Below.refl _ _, HA⟩
    case round =>
      obtain ⟨k, rfl, hk, hB, hT⟩ := hrel
      clear HA
      replace c1 := cell_on c1 hB
      replace c7 := cell_on c7 hB
      have hSr := hS0.out.on hB
      have bw := Below.trans b0 (hB.mono b0.size)
      by_cases hlt : k < n
      · have hlt' : (k : Int) < (n : Int) := by omega
        have kL : k < L.length := by have := HN.out; omega
        obtain ⟨g1, o1, rfl, hc1⟩ := id hSr (by omega)
        obtain ⟨a1, d1, C1, D1, y1, y2, y3⟩ := hc1 k kL
        have hx := hT.out.trans (all_at kL)
        have E := Lib.hid (rCanD_any t a1 L[k] d1 wr D1 y1 y2)
        generalize L[k] = x at *
        generalize canD t x = r at *
        have HX := Lib.hid hx
        clear hc1 D1 y1 y2 y3 hx hT hSr
        go_wp2_with fail
        refine E.out.mono ?_
        rintro e w1 ⟨rfl, b1⟩
        have bb := Below.trans bw (b1.mono bw.size)
        have b2 := Below.trans hB (b1.mono hB.size)
        clear E b1
        cases r with
        | false =>
          have HF : Hid (R = false) := Lib.hid (PD.out (by rw [HX.out]; rfl))
          clear HX PD PA
          go_wp2_with fail
          go_ret
          exact ⟨by rw [HF.out]; rfl, bb⟩
        | true =>
          have HX2 : Hid (L.all (canD t) = (L.drop (k + 1)).all (canD t)) := Lib.hid (by rw [HX.out]; rfl)
          clear HX
          go_wp2_with fail
          go_roundw
          case rel => exact ⟨k + 1, by go_num, by omega, b2, HX2⟩
          case measure => simp [intOf]; omega
      · have hlt' : ¬ (k : Int) < (n : Int) := by omega
        obtain rfl : k = n := by omega
        have hall : L.all (canD t) = true := by rw [hT.out, List.drop_eq_nil_of_le (by have := HN.out; omega)]; rfl
        have HK := Lib.hid (WE.out (PA.out hall))
        have HW := Lib.hid (WK.out ⟨by omega, by omega⟩ (by simp) (fun x hx => canD_len (List.all_eq_true.1 hall x hx)))
        have r2 := (hB.block _ lt1).trans r1
        have L1 := loadSt_row r2 I.out
        have hS9 := Lib.hid hSr
        clear hT hall WE PA PD WK hSr r2 c1 c7
        go_wp2_with fail
        refine (ES.out _ hS9.out HW.out).mono ?_
        rintro e w9 ⟨rfl, q9⟩
        have bb := Below.trans bw (q9.mono bw.size)
        clear q9
        by_cases h9 : B.length ≤ 4000
        all_goals
          have HF : Hid (R = decide (B.length ≤ 4000)) := Lib.hid HK.out
          have h9' : Hid ((B.length : Int) ≤ 4000 ↔ B.length ≤ 4000) := Lib.hid (by omega)
          clear h9
          go_wp2_with fail
          go_ret
          exact ⟨by rw [HF.out]; exact ret_bool (by simp; omega), bb⟩
  by_cases k12 : kd = 1 ∨ kd = 2
  · have HK := Lib.hid (P_kind_12.out k12)
    clear P_kind_0 P_kind_z P_kind_l P_kind_t P_kind_d P_kind_12 P_n k0
    rcases k12 with rfl | rfl
    all_goals
      go_wp2_with fail
      refine (EZ.out _).mono ?_
      rintro e w2 ⟨rfl, rfl⟩
      cases hk : can z with
      | false =>
        have HF := Lib.hid (P_canS_k.out (by rw [HK.out, P_sz.out hk]; simp))
        clear hk P_canS_k P_so P_sl P_sz
        go_wp2_with fail
        go_ret
        exact ⟨by rw [HF.out]; rfl, b0⟩
      | true =>
        have HKZ := Lib.hid hk
        clear hk P_sz
        by_cases hl : n = 1
        case neg =>
          have HF := Lib.hid (P_canS_k.out (by rw [HK.out, P_sl.out hl]; simp))
          have hl2 : ((n : Int) != 1) = true := by rw [bne_iff_ne]; omega
          clear P_canS_k P_so P_sl hl
          go_wp2_with fail
          go_ret
          exact ⟨by rw [HF.out]; rfl, b0⟩
        subst hl
        obtain ⟨x, hx⟩ : ∃ x, L = [x] := List.length_eq_one_iff.1 HN.out.symm
        subst hx
        obtain ⟨g6, o6, rfl, hc6⟩ := id hS0.out (by simp)
        obtain ⟨a6, d6, C6, D6, y1, y2, y3⟩ := hc6 0 (by simp)
        simp only [List.getElem_cons_zero, Nat.add_zero] at C6 D6 y1
        have E6 := Lib.hid (rCanD_any 6 a6 x d6 W0 D6 y1 y2)
        have HSO := P_so.out x rfl
        rw [HKZ.out, Bool.true_and] at HSO
        have HLEN := Lib.hid (@canD_len 6 x)
        generalize canD 6 x = r at *
        have HSO' := Lib.hid HSO
        clear hc6 D6 y1 y2 y3 HSO P_so P_sl
        go_wp2_with fail
        refine E6.out.mono ?_
        rintro e w3 ⟨rfl, q3⟩
        replace r1 := (q3.block _ lt1).trans r1
        have hS3 := Lib.hid (hS0.out.on q3)
        obtain ⟨b3, s3⟩ := Below.next b0 b0.size q3
        clear c0 c1 c2 c3 c4 c5 c6 c7 q3 E6
        obtain ⟨c0, c1, c2, c3, c4, c5, c6, c7⟩ := CE.out _ r1
        cases r with
        | false =>
          have HF := Lib.hid (P_canS_k.out (by rw [HK.out, HSO'.out]; simp))
          clear P_canS_k
          go_wp2_with fail
          go_ret
          exact ⟨by rw [HF.out]; rfl, b3⟩
        | true =>
          by_cases ht : t = 0
          all_goals
            first
              | (have ht2 : (t == 0) = true := by rw [beq_iff_eq]; exact ht)
              | (have ht2 : (t == 0) = false := by rw [beq_eq_false_iff_ne]; exact ht)
            first
              | (have HF := Lib.hid (P_canS_k.out (by rw [HK.out, HSO'.out, ht2]; rfl))
                 clear P_canS_k ht
                 go_wp2_with fail
                 go_ret
                 exact ⟨by rw [HF.out]; rfl, b3⟩)
              | (have HKE := Lib.hid (WE.out (by rw [HK.out, HSO'.out, ht2]; rfl))
                 have HW := Lib.hid (WK.out ⟨by omega, by omega⟩ (can_out HKZ.out).1 (fun y hy => by rw [List.mem_singleton.1 hy]; exact HLEN.out rfl))
                 have L1 := loadSt_row r1 I.out
                 clear P_canS_k WE WK ht
                 go_wp2_with fail
                 refine (ES.out _ hS3.out HW.out).mono ?_
                 rintro e w9 ⟨rfl, q9⟩
                 have bb := Below.trans b3 (q9.mono s3)
                 clear q9
                 by_cases h9 : B.length ≤ 4000
                 all_goals
                   have HF : Hid (R = decide (B.length ≤ 4000)) := Lib.hid HKE.out
                   have h9' : Hid ((B.length : Int) ≤ 4000 ↔ B.length ≤ 4000) := Lib.hid (by omega)
                   clear h9
                   go_wp2_with fail
                   go_ret
                   exact ⟨by rw [HF.out]; exact ret_bool (by simp; omega), bb⟩)
  have HF := Lib.hid (P_canS_k.out (P_n.out k0 (fun h => k12 (.inl h)) (fun h => k12 (.inr h))))
  have e0 : (kd == 0) = false := by simp [k0]
  have e1 : (kd == 1) = false := by simp; omega
  have e2 : (kd == 2) = false := by simp; omega
  clear P_canS_k P_kind_0 P_kind_z P_kind_l P_kind_t P_kind_d P_kind_12 P_n P_so P_sl P_sz k0 k12
  go_wp2_with fail
  go_ret
  exact ⟨by rw [HF.out]; rfl, b0⟩
end Go.Proofs.Ytbeggckkgaoacaa
