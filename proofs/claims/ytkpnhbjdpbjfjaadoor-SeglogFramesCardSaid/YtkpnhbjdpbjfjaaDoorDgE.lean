/-
  SHA-256 over plain lists: padding, blocks, the sum; sizes. No program.
-/
import Derived.Test.YtkpnhbjdpbjfjaaDoorDgD
namespace Go.Proofs.YtkpnhbjdpbjfjaaDoor
set_option linter.unusedVariables false
set_option maxRecDepth 100000

def noughts (n : Nat) : Nat := (119 - n % 64) % 64
def len8 (n : Nat) : List UInt8 := [UInt8.ofNat (n >>> 56), UInt8.ofNat (n >>> 48), UInt8.ofNat (n >>> 40), UInt8.ofNat (n >>> 32), UInt8.ofNat (n >>> 24), UInt8.ofNat (n >>> 16), UInt8.ofNat (n >>> 8), UInt8.ofNat n]
def padded (l : List UInt8) : List UInt8 := l ++ 0x80 :: (List.replicate (noughts l.length) 0 ++ len8 (8 * l.length))
def firstV : V8 := ⟨0x6a09e667, 0xbb67ae85, 0x3c6ef372, 0xa54ff53a, 0x510e527f, 0x9b05688c, 0x1f83d9ab, 0x5be0cd19⟩
/-- The eight words behind n rounds over 64 words. -/
def roundsOf (v : V8) (ws : List Nat) : Nat → V8
  | 0 => v
  | n + 1 => (roundsOf v ws n).next (roundKs.getD n 0) (ws.getD n 0)
def compress (v : V8) (b : List UInt8) : V8 := (roundsOf v (words b 64) 64).add v
/-- The eight words behind n blocks. -/
def stateAt (p : List UInt8) : Nat → V8
  | 0 => firstV
  | n + 1 => compress (stateAt p n) ((p.drop (64 * n)).take 64)
def bytes4 (x : Nat) : List UInt8 := [UInt8.ofNat (x >>> 24), UInt8.ofNat (x >>> 16), UInt8.ofNat (x >>> 8), UInt8.ofNat x]
def sha (l : List UInt8) : List UInt8 := ((stateAt (padded l) ((padded l).length / 64)).list).flatMap bytes4

theorem noughts_lt (n : Nat) : noughts n < 64 := Nat.mod_lt _ (by decide)
theorem noughts_fit (n : Nat) : (n + 1 + noughts n) % 64 = 56 := by unfold noughts; omega
/-- No fewer noughts do. -/
theorem noughts_least {n k : Nat} (h : k < noughts n) : (n + 1 + k) % 64 ≠ 56 := by unfold noughts at h; omega
theorem padded_length (l : List UInt8) : (padded l).length = l.length + 9 + noughts l.length := by simp [padded, len8]; omega
theorem padded_blocks (l : List UInt8) : (padded l).length % 64 = 0 := by rw [padded_length]; have := noughts_fit l.length; omega
theorem words_length (b : List UInt8) (n : Nat) : (words b n).length = n := by
  induction n with
  | zero => rfl
  | succ n ih => simp [words, ih]
/-- A word stands once it is there. -/
theorem words_stay (b : List UInt8) {i n : Nat} (h : i < n) : (words b n).getD i 0 = (words b (i + 1)).getD i 0 := by
  induction n with
  | zero => omega
  | succ n ih =>
    by_cases e : i = n
    · rw [e]
    · have hi : i < n := by omega
      rw [← ih hi]
      simp only [words, List.getD_eq_getElem?_getD]
      rw [List.getElem?_append_left (by rw [words_length]; exact hi)]
theorem words_last (b : List UInt8) (n : Nat) : (words b (n + 1)).getD n 0 = if n < 16 then wordOf ((b.getD (4 * n) 0).toNat) ((b.getD (4 * n + 1) 0).toNat) ((b.getD (4 * n + 2) 0).toNat) ((b.getD (4 * n + 3) 0).toNat)
      else ((words b n).getD (n - 16) 0 + sig0 ((words b n).getD (n - 15) 0) + (words b n).getD (n - 7) 0 + sig1 ((words b n).getD (n - 2) 0)) % 4294967296 := by
  simp only [words, List.getD_eq_getElem?_getD]
  rw [List.getElem?_append_right (by rw [words_length]; exact Nat.le_refl _), words_length, Nat.sub_self]
  rfl
theorem words_lt (b : List UInt8) (n : Nat) : ∀ x ∈ words b n, x < 4294967296 := by
  induction n with
  | zero => intro x h; cases h
  | succ n ih =>
    intro x h
    rw [words, List.mem_append] at h
    rcases h with h | h
    · exact ih x h
    · rw [List.mem_singleton] at h
      rw [h]
      split
      · exact wordOf_lt (b.getD (4 * n) 0).toNat_lt (b.getD (4 * n + 1) 0).toNat_lt (b.getD (4 * n + 2) 0).toNat_lt (b.getD (4 * n + 3) 0).toNat_lt
      · exact Nat.mod_lt _ (by decide)
theorem V8.Ok.next {v : V8} (h : v.Ok) (k w : Nat) : (v.next k w).Ok := ⟨Nat.mod_lt _ (by decide), h.a, h.b, h.c, Nat.mod_lt _ (by decide), h.e, h.f, h.g⟩
theorem V8.Ok.add (v u : V8) : (v.add u).Ok := by
  unfold V8.add
  exact ⟨Nat.mod_lt _ (by decide), Nat.mod_lt _ (by decide), Nat.mod_lt _ (by decide), Nat.mod_lt _ (by decide), Nat.mod_lt _ (by decide), Nat.mod_lt _ (by decide), Nat.mod_lt _ (by decide), Nat.mod_lt _ (by decide)⟩
theorem firstV_ok : firstV.Ok := by constructor <;> decide
theorem stateAt_ok (p : List UInt8) : ∀ n, (stateAt p n).Ok
  | 0 => firstV_ok
  | n + 1 => V8.Ok.add _ _
theorem roundsOf_ok {v : V8} (h : v.Ok) (ws : List Nat) : ∀ n, (roundsOf v ws n).Ok
  | 0 => h
  | n + 1 => (roundsOf_ok h ws n).next _ _
theorem sha_length (l : List UInt8) : (sha l).length = 32 := by
  unfold sha
  generalize stateAt (padded l) ((padded l).length / 64) = v
  simp [V8.list, bytes4]

end Go.Proofs.YtkpnhbjdpbjfjaaDoor
