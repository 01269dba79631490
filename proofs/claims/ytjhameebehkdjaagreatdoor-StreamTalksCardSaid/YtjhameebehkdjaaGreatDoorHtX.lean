/-
  Requests of HTTP: plain bytes; what is asked is read.
-/
import Derived.Test.YtjhameebehkdjaaGreatDoorHuA
import Derived.Test.YtjhameebehkdjaaGreatDoorHtV
namespace Go.Proofs.YtjhameebehkdjaaGreatDoor
open Go.RowKit
set_option linter.unusedVariables false
set_option maxRecDepth 100000

theorem fit_line {h : Bs} {L : List Bs} {p : Bs} (k : HdOk h L p false) {c : UInt8} (hc : lineC c = true) : fitH h c = true := by
  unfold fitH
  rw [if_neg (fun e => by have := k.last.1 e; cases this), hc]
  rfl
theorem go_line : ∀ (l h : Bs) (L : List Bs) (p r : Bs), HdOk h L p false → okLine l → h.length + l.length < 2000 → goH (.hd h) (l ++ r) = goH (.hd (h ++ l)) r ∧ HdOk (h ++ l) L (p ++ l) false
  | [], h, L, p, r, k, _, _ => by simpa using k
  | c :: l, h, L, p, r, k, hl, hn => by
    have hc : lineC c = true := hl c (by simp)
    have hf := fit_line k hc
    have hcl := lineC_ne hc
    rcases k.step hf with ⟨h1, _⟩ | ⟨h1, _⟩ | ⟨_, h1, _⟩ | ⟨_, _, he, k'⟩
    · cases h1
    · cases h1
    · exact absurd h1 hcl.1
    · have hl' : h.length + (l.length + 1) < 2000 := by simpa using hn
      obtain ⟨i1, i2⟩ := go_line l (h ++ [c]) L (p ++ [c]) r k' (fun x hx => hl x (by simp [hx])) (by simp; omega)
      have e : stepH (.hd h) c = (.hd (h ++ [c]), [], false) := by
        simp only [stepH]
        rw [if_pos hf, if_neg (by simp [he]), if_neg (by omega)]
      rw [List.cons_append, goH, e, thenH_eq]
      simp only
      rw [i1]
      exact ⟨by simp, by simpa using i2⟩
theorem go_cr {h : Bs} {L : List Bs} {p : Bs} (k : HdOk h L p false) (r : Bs) (hn : h.length + 1 < 2000) : goH (.hd h) (13 :: r) = goH (.hd (h ++ [13])) r ∧ HdOk (h ++ [13]) L p true := by
  have hf : fitH h 13 = true := by
    unfold fitH
    rw [if_neg (fun e => by have := k.last.1 e; cases this)]
    rfl
  rcases k.step hf with ⟨h1, _⟩ | ⟨h1, _⟩ | ⟨_, _, he, k'⟩ | ⟨_, h1, _⟩
  · cases h1
  · cases h1
  · have e : stepH (.hd h) 13 = (.hd (h ++ [13]), [], false) := by
      simp only [stepH]
      rw [if_pos hf, if_neg (by simp [he]), if_neg (by omega)]
    rw [goH, e, thenH_eq]
    exact ⟨rfl, k'⟩
  · exact absurd rfl (lineC_ne h1).1
theorem go_lf {h : Bs} {L : List Bs} {p : Bs} (k : HdOk h L p true) (hp : p ≠ []) (r : Bs) (hn : h.length + 1 < 2000) : goH (.hd h) (10 :: r) = goH (.hd (h ++ [10])) r ∧ HdOk (h ++ [10]) (L ++ [p]) [] false := by
  have hf : fitH h 10 = true := by
    unfold fitH
    rw [if_pos (k.last.2 rfl)]
    rfl
  rcases k.step hf with ⟨_, _, h1, _⟩ | ⟨_, _, _, he, k'⟩ | ⟨h1, _⟩ | ⟨h1, _⟩
  · exact absurd h1 hp
  · have e : stepH (.hd h) 10 = (.hd (h ++ [10]), [], false) := by
      simp only [stepH]
      rw [if_pos hf, if_neg (by simp [he]), if_neg (by omega)]
    rw [goH, e, thenH_eq]
    exact ⟨rfl, k'⟩
  · cases h1
  · cases h1
theorem go_end {h : Bs} {L : List Bs} (k : HdOk h L [] true) (r : Bs) : goH (.hd h) (10 :: r) = thenH (behindH (readL L)) (goH (behindH (readL L)).1 r) := by
  have hf : fitH h 10 = true := by
    unfold fitH
    rw [if_pos (k.last.2 rfl)]
    rfl
  rcases k.step hf with ⟨_, _, _, he, e1⟩ | ⟨_, _, h1, _⟩ | ⟨h1, _⟩ | ⟨h1, _⟩
  · have e : stepH (.hd h) 10 = behindH (readL L) := by
      simp only [stepH]
      rw [if_pos hf, if_pos he, e1]
      unfold readH
      rw [linesH_cat L (fun l hl => (k.lines l hl).1)]
    rw [goH, e]
  · exact absurd rfl h1
  · cases h1
  · cases h1
/-- Whole lines. -/
theorem go_lines : ∀ (M : List Bs) (h : Bs) (L : List Bs) (r : Bs), HdOk h L [] false → (∀ l ∈ M, okLine l ∧ l ≠ []) → h.length + (catL M).length < 2000 → goH (.hd h) (catL M ++ r) = goH (.hd (h ++ catL M)) r ∧ HdOk (h ++ catL M) (L ++ M) [] false
  | [], h, L, r, k, _, _ => by simpa [catL] using k
  | l :: M, h, L, r, k, hM, hn => by
    have e0 : catL (l :: M) = l ++ 13 :: 10 :: catL M := by simp [catL]
    rw [e0] at hn
    have hn' : h.length + (l.length + ((catL M).length + 1 + 1)) < 2000 := by simpa using hn
    obtain ⟨a1, a2⟩ := go_line l h L [] (13 :: 10 :: (catL M ++ r)) k (hM l (by simp)).1 (by omega)
    rw [List.nil_append] at a2
    obtain ⟨b1, b2⟩ := go_cr a2 (10 :: (catL M ++ r)) (by simp; omega)
    obtain ⟨c1, c2⟩ := go_lf b2 (hM l (by simp)).2 (catL M ++ r) (by simp; omega)
    obtain ⟨d1, d2⟩ := go_lines M _ _ r c2 (fun x hx => hM x (by simp [hx])) (by simp; omega)
    rw [e0]
    refine ⟨?_, ?_⟩
    · rw [show l ++ 13 :: 10 :: catL M ++ r = l ++ 13 :: 10 :: (catL M ++ r) by simp, a1, b1, c1, d1]
      simp
    · simpa using d2
/-- A whole head. -/
theorem go_head (M : List Bs) (r : Bs) (hM : ∀ l ∈ M, okLine l ∧ l ≠ []) (hn : (catL M).length + 2 ≤ 2000) : goH (.hd []) (catL M ++ 13 :: 10 :: r) = thenH (behindH (readL M)) (goH (behindH (readL M)).1 r) := by
  obtain ⟨a1, a2⟩ := go_lines M [] [] (13 :: 10 :: r) HdOk.nil hM (by simp; omega)
  rw [List.nil_append] at a1 a2
  rw [List.nil_append] at a2
  obtain ⟨b1, b2⟩ := go_cr a2 (10 :: r) (by omega)
  rw [a1, b1, go_end b2]

/-! Numbers. -/
theorem decD_dig : ∀ n : Nat, (decD n).all digH = true := fun n => by
  induction n using Nat.strongRecOn with
  | ind n ih =>
    unfold decD
    rw [Go.Lib.decDigits]
    split
    · rename_i h
      have : ∀ k : Fin 10, digH (UInt8.ofNat (48 + k.val)) = true := by decide
      simpa using this ⟨n, h⟩
    · have := ih (n / 10) (by omega)
      unfold decD at this
      have h2 : ∀ k : Fin 10, digH (UInt8.ofNat (48 + k.val)) = true := by decide
      rw [List.all_append, this]
      simpa using h2 ⟨n % 10, by omega⟩
theorem decD_val : ∀ n : Nat, valH (decD n) = n := fun n => by
  induction n using Nat.strongRecOn with
  | ind n ih =>
    have h2 : ∀ k : Fin 10, (UInt8.ofNat (48 + k.val)).toNat = 48 + k.val := by decide
    unfold decD
    rw [Go.Lib.decDigits]
    split
    · rename_i h
      simp [valH]
      omega
    · have h1 := ih (n / 10) (by omega)
      unfold decD at h1
      have := h2 ⟨n % 10, by omega⟩
      simp only at this
      rw [show ∀ (s : Bs) (c : UInt8), valH (s ++ [c]) = 10 * valH s + (c.toNat - 48) from fun s c => by simp [valH, List.foldl_append], h1, this]
      omega
theorem numH_dec {n : Nat} (h : n ≤ 65535) : numH (decD n) = some n := by
  have hl := decD_len 4 n (by omega)
  unfold numH decH
  rw [if_pos ⟨by omega, by omega, decD_dig n⟩, decD_val]
  simp [h]
theorem dig_facts {c : UInt8} (h : digH c = true) : blankH c = false ∧ small c = c ∧ lineC c = true := by
  have : ∀ k : Fin 256, digH (UInt8.ofNat k.val) = true → blankH (UInt8.ofNat k.val) = false ∧ small (UInt8.ofNat k.val) = UInt8.ofNat k.val ∧ lineC (UInt8.ofNat k.val) = true := by decide
  have h2 := this ⟨c.toNat, c.toNat_lt⟩
  have e : UInt8.ofNat c.toNat = c := by simp
  simp only [e] at h2
  exact h2 h
theorem low_dig {d : Bs} (h : d.all digH = true) : low d = d := by
  unfold low
  have : ∀ c ∈ d, small c = c := fun c hc => (dig_facts (List.all_eq_true.1 h c hc)).2.1
  induction d with
  | nil => rfl
  | cons c d ih =>
    rw [List.map_cons, this c (by simp), ih (by simp only [List.all_cons, Bool.and_eq_true] at h; exact h.2) (fun x hx => this x (by simp [hx]))]
theorem trim_dig {d : Bs} (h : d.all digH = true) (hn : d ≠ []) : trimH (32 :: d) = d := by
  have hb : ∀ c ∈ d, blankH c = false := fun c hc => (dig_facts (List.all_eq_true.1 h c hc)).1
  unfold trimH
  have e1 : (32 :: d).reverse.dropWhile blankH = (32 :: d).reverse := by
    obtain ⟨q, x, rfl⟩ : ∃ q x, d = q ++ [x] := ⟨d.dropLast, d.getLast hn, (List.dropLast_concat_getLast hn).symm⟩
    have := hb x (by simp)
    simp [this]
  rw [e1, List.reverse_reverse]
  cases d with
  | nil => exact absurd rfl hn
  | cons c d =>
    have := hb c (by simp)
    have e2 : blankH 32 = true := rfl
    simp [List.dropWhile, this, e2]
theorem field_len {d : Bs} (h : d.all digH = true) (hn : d ≠ []) : fieldH (sLen ++ d) = some (kLen, d) := by
  have e1 : (sLen ++ d).takeWhile (· != 58) = [67, 111, 110, 116, 101, 110, 116, 45, 76, 101, 110, 103, 116, 104] := rfl
  have e2 : (sLen ++ d).drop 15 = 32 :: d := rfl
  unfold fieldH
  dsimp only
  rw [e1]
  rw [if_pos ⟨by simp, by decide, by simp [sLen]⟩]
  rw [show ([67, 111, 110, 116, 101, 110, 116, 45, 76, 101, 110, 103, 116, 104] : Bs).length + 1 = 15 from rfl, e2, trim_dig h hn, low_dig h]
  rfl

/-! The lines of what is asked. -/
def lHost : Bs := [72, 111, 115, 116, 58, 32, 114, 101, 115, 111, 108, 118, 101, 114]
def lType : Bs := [67, 111, 110, 116, 101, 110, 116, 45, 84, 121, 112, 101, 58, 32, 97, 112, 112, 108, 105, 99, 97, 116, 105, 111, 110, 47, 100, 110, 115, 45, 109, 101, 115, 115, 97, 103, 101]
def lEnc : Bs := [84, 114, 97, 110, 115, 102, 101, 114, 45, 69, 110, 99, 111, 100, 105, 110, 103, 58, 32, 99, 104, 117, 110, 107, 101, 100]
def lConn : Bs := [67, 79, 78, 78, 69, 67, 84, 73, 79, 78, 58, 32, 32, 67, 108, 111, 115, 101, 32]
theorem f_host : ∃ k v, fieldH lHost = some (k, v) ∧ ∀ h, takeHd h k v = some h := ⟨[104, 111, 115, 116], [114, 101, 115, 111, 108, 118, 101, 114], (by kernel_rfl), fun h => by
  unfold takeHd
  rw [if_neg (by decide), if_neg (by decide), if_neg (by decide), if_neg (by decide)]⟩
theorem f_type : fieldH lType = some (kType, msgT) := by kernel_rfl
theorem f_enc : fieldH lEnc = some (kEnc, vChunk) := by kernel_rfl
theorem f_conn : fieldH lConn = some (kConn, vClose) := by kernel_rfl
theorem read_ask {n : Nat} (h : n ≤ 65535) : readL [reqL, lHost, lType, sLen ++ decD n] = some (true, some n) := by
  have hl := decD_len 4 n (by omega)
  obtain ⟨k, v, e1, e2⟩ := f_host
  rw [readL_fold _ _ rfl]
  simp only [foldHd, e1, f_type, field_len (decD_dig n) (fun e => by rw [e] at hl; simp at hl), Option.bind_some, e2]
  rw [show takeHd hd0 kType msgT = some ⟨1, 0, 0, 0, false, false⟩ by kernel_rfl]
  simp only [Option.bind_some]
  rw [show takeHd ⟨1, 0, 0, 0, false, false⟩ kLen (decD n) = (numH (decD n)).map (fun m => (⟨1, 1, 0, m, false, false⟩ : Hd)) from rfl, numH_dec h]
  rfl
theorem read_enc : readL [reqL, lHost, lType, lEnc] = some (true, none) := by kernel_rfl
theorem read_close {n : Nat} (h : n ≤ 65535) : readL [reqL, lConn, lHost, lType, sLen ++ decD n] = some (false, some n) := by
  have hl := decD_len 4 n (by omega)
  obtain ⟨k, v, e1, e2⟩ := f_host
  rw [readL_fold _ _ rfl]
  simp only [foldHd, e1, f_conn, f_type, field_len (decD_dig n) (fun e => by rw [e] at hl; simp at hl), Option.bind_some, e2]
  rw [show takeHd hd0 kConn vClose = some ⟨0, 0, 1, 0, false, true⟩ by kernel_rfl]
  simp only [Option.bind_some]
  rw [show takeHd ⟨0, 0, 1, 0, false, true⟩ kType msgT = some ⟨1, 0, 1, 0, false, true⟩ by kernel_rfl]
  simp only [Option.bind_some]
  rw [show takeHd ⟨1, 0, 1, 0, false, true⟩ kLen (decD n) = (numH (decD n)).map (fun m => (⟨1, 1, 1, m, false, true⟩ : Hd)) from rfl, numH_dec h]
  rfl
theorem ok_dec (n : Nat) : okLine (sLen ++ decD n) := fun c hc => by
  rcases List.mem_append.1 hc with hc | hc
  · have : sLen.all lineC = true := by decide
    exact List.all_eq_true.1 this c hc
  · exact (dig_facts (List.all_eq_true.1 (decD_dig n) c hc)).2.2
theorem ok_lit {l : Bs} (h : l.all lineC = true) : okLine l := fun c hc => List.all_eq_true.1 h c hc
theorem go_told {k : Bool} {b r : Bs} : goH (behindH (some (k, some b.length))).1 (b ++ r) = (if b.length = 0 then goH (nextH k []).1 r else thenH (nextH k b) (goH (nextH k b).1 r)) := by
  by_cases h : b.length = 0
  · have : b = [] := List.length_eq_zero_iff.1 h
    subst this
    rfl
  · rw [if_neg h]
    simp only [behindH]
    rw [if_neg h, go_cnt _ _ _ _ (by omega), if_neg (by simp)]
    simp
theorem told {k : Bool} {b r : Bs} : thenH (behindH (some (k, some b.length))) (goH (behindH (some (k, some b.length))).1 (b ++ r)) = thenH (nextH k b) (goH (nextH k b).1 r) := by
  rw [go_told]
  by_cases h : b.length = 0
  · have : b = [] := List.length_eq_zero_iff.1 h
    subst this
    rfl
  · rw [if_neg h]
    simp only [behindH]
    rw [if_neg h, thenH_eq]
/-- A request whose body's length is told. -/
theorem askH_cat (n : Nat) : askH n = catL [reqL, lHost, lType, sLen ++ decD n] ++ [13, 10] := by
  have e : sAsk = catL [reqL, lHost, lType] := by decide
  unfold askH lenLine
  rw [e]
  simp [catL, crlf]
theorem go_ask (b r : Bs) (h : b.length ≤ 65535) : goH (.hd []) (askH b.length ++ b ++ r) = thenH (nextH true b) (goH (.hd []) r) := by
  have hl := (decD_len 4 b.length (by omega)).1
  have e : askH b.length ++ b ++ r = catL [reqL, lHost, lType, sLen ++ decD b.length] ++ 13 :: 10 :: (b ++ r) := by rw [askH_cat]; simp
  rw [e, go_head _ _ ?_ ?_, read_ask h, told]
  · rfl
  · intro l hl
    simp only [List.mem_cons, List.not_mem_nil, or_false] at hl
    rcases hl with rfl | rfl | rfl | rfl
    · exact ⟨ok_lit (by decide), by decide⟩
    · exact ⟨ok_lit (by decide), by decide⟩
    · exact ⟨ok_lit (by decide), by decide⟩
    · exact ⟨ok_dec _, by simp [sLen]⟩
  · have h0 : (catL [reqL, lHost, lType]).length = 81 := by decide
    have : (catL [reqL, lHost, lType, sLen ++ decD b.length]).length = (catL [reqL, lHost, lType]).length + (sLen.length + (decD b.length).length + 2) := by simp [catL]; omega
    rw [this, h0]
    simp [sLen]
    omega
/-- A request that is not kept. -/
def closeH (n : Nat) : Bs := catL [reqL, lConn, lHost, lType, sLen ++ decD n] ++ [13, 10]
theorem go_close (b r : Bs) (h : b.length ≤ 65535) : goH (.hd []) (closeH b.length ++ b ++ r) = (.dead, [(b, false)], false) := by
  have hl := (decD_len 4 b.length (by omega)).1
  have e : closeH b.length ++ b ++ r = catL [reqL, lConn, lHost, lType, sLen ++ decD b.length] ++ 13 :: 10 :: (b ++ r) := by simp [closeH]
  rw [e, go_head _ _ ?_ ?_, read_close h, told]
  · show thenH (nextH false b) (goH .dead r) = _
    rw [goH_dead]
    rfl
  · intro l hl
    simp only [List.mem_cons, List.not_mem_nil, or_false] at hl
    rcases hl with rfl | rfl | rfl | rfl | rfl
    · exact ⟨ok_lit (by decide), by decide⟩
    · exact ⟨ok_lit (by decide), by decide⟩
    · exact ⟨ok_lit (by decide), by decide⟩
    · exact ⟨ok_lit (by decide), by decide⟩
    · exact ⟨ok_dec _, by simp [sLen]⟩
  · have h0 : (catL [reqL, lConn, lHost, lType]).length = 102 := by decide
    have : (catL [reqL, lConn, lHost, lType, sLen ++ decD b.length]).length = (catL [reqL, lConn, lHost, lType]).length + (sLen.length + (decD b.length).length + 2) := by simp [catL]; omega
    rw [this, h0]
    simp [sLen]
    omega
/-- A request in chunks. -/
def chunkH (b : Bs) : Bs := catL [reqL, lHost, lType, lEnc] ++ [13, 10] ++ encK 100 b
theorem go_chunks (b r : Bs) (h : b.length ≤ 65535) : goH (.hd []) (chunkH b ++ r) = thenH (nextH true b) (goH (.hd []) r) := by
  have e : chunkH b ++ r = catL [reqL, lHost, lType, lEnc] ++ 13 :: 10 :: (encK 100 b ++ r) := by simp [chunkH]
  have hk : okC (newC 65535) (encK 100 b) = some ⟨65535, 6, 1, 0, b, true, 0⟩ := ok_enc b.length 100 65535 [] b (Nat.le_refl _) (by omega) (by omega) (by simpa using h)
  have hf : feedC (newC 65535) (encK 100 b ++ r) = (((encK 100 b).length, true, 0), ⟨65535, 6, 1, 0, b, true, 0⟩) := by
    show (if (0 : Nat) = 0 then goC 0 (newC 65535) (encK 100 b ++ r) else _) = _
    rw [if_pos rfl, goC_app hk, goC_whole rfl, Nat.zero_add]
  rw [e, go_head _ _ ?_ (by decide), read_enc]
  · show thenH (_, [], false) (goH (.chk true (newC 65535)) (encK 100 b ++ r)) = _
    rw [thenH_eq, (go_chk rfl rfl).1, hf]
    simp [chkH, nextH]
  · intro l hl
    simp only [List.mem_cons, List.not_mem_nil, or_false] at hl
    rcases hl with rfl | rfl | rfl | rfl
    all_goals exact ⟨ok_lit (by decide), by decide⟩
end Go.Proofs.YtjhameebehkdjaaGreatDoor
