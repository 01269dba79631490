/-
  An eighth and a half of a whole number as a float, and their whole parts.
-/
import Derived.Test.YtabclpffjpcejaaRtF
namespace Go.Proofs.Ytabclpffjpcejaa
set_option linter.unusedVariables false
set_option maxRecDepth 100000

/-- The bits of a part: the number's, with a power of two less. -/
def Qf (n k : Nat) : Nat := if n = 0 then 0 else Fl n - k * 2 ^ 52
def quoOk (k n : Nat) : Bool := floatBits .quo .f64 (Fl n) (Fl (2 ^ k)) == some (Qf n k)
def floorOk (k n : Nat) : Bool := FloatKind.f64.encode ((FloatKind.f64.decode (Qf n k)).integral .down) == Fl (n / 2 ^ k) && !(FloatKind.f64.decode (Qf n k)).isNaN
theorem quoAll8_0 : all2 (quoOk 3) 10 0 = true := by kernel_rfl
theorem floorAll8_0 : all2 (floorOk 3) 10 0 = true := by kernel_rfl
theorem quoAll8_1 : all2 (quoOk 3) 10 1024 = true := by kernel_rfl
theorem floorAll8_1 : all2 (floorOk 3) 10 1024 = true := by kernel_rfl
theorem quoAll8_2 : all2 (quoOk 3) 10 2048 = true := by kernel_rfl
theorem floorAll8_2 : all2 (floorOk 3) 10 2048 = true := by kernel_rfl
theorem quoAll8_3 : all2 (quoOk 3) 10 3072 = true := by kernel_rfl
theorem floorAll8_3 : all2 (floorOk 3) 10 3072 = true := by kernel_rfl
theorem quoAll8_4 : all2 (quoOk 3) 10 4096 = true := by kernel_rfl
theorem floorAll8_4 : all2 (floorOk 3) 10 4096 = true := by kernel_rfl
theorem quoAll8_5 : all2 (quoOk 3) 10 5120 = true := by kernel_rfl
theorem floorAll8_5 : all2 (floorOk 3) 10 5120 = true := by kernel_rfl
theorem quoAll8_6 : all2 (quoOk 3) 10 6144 = true := by kernel_rfl
theorem floorAll8_6 : all2 (floorOk 3) 10 6144 = true := by kernel_rfl
theorem quoAll8_7 : all2 (quoOk 3) 10 7168 = true := by kernel_rfl
theorem floorAll8_7 : all2 (floorOk 3) 10 7168 = true := by kernel_rfl
theorem quoAll2 : all2 (quoOk 1) 10 0 = true := by kernel_rfl
theorem floorAll2 : all2 (floorOk 1) 10 0 = true := by kernel_rfl
theorem eights {p : Nat → Bool} (h0 : all2 p 10 0 = true) (h1 : all2 p 10 1024 = true) (h2 : all2 p 10 2048 = true) (h3 : all2 p 10 3072 = true) (h4 : all2 p 10 4096 = true) (h5 : all2 p 10 5120 = true) (h6 : all2 p 10 6144 = true) (h7 : all2 p 10 7168 = true) {n : Nat} (h : n < 8192) : p n = true := by
  have e : 2 ^ 10 = 1024 := rfl
  by_cases k0 : n < 1024
  · exact all2_spec p 10 _ h0 n (by omega) (by omega)
  by_cases k1 : n < 2048
  · exact all2_spec p 10 _ h1 n (by omega) (by omega)
  by_cases k2 : n < 3072
  · exact all2_spec p 10 _ h2 n (by omega) (by omega)
  by_cases k3 : n < 4096
  · exact all2_spec p 10 _ h3 n (by omega) (by omega)
  by_cases k4 : n < 5120
  · exact all2_spec p 10 _ h4 n (by omega) (by omega)
  by_cases k5 : n < 6144
  · exact all2_spec p 10 _ h5 n (by omega) (by omega)
  by_cases k6 : n < 7168
  · exact all2_spec p 10 _ h6 n (by omega) (by omega)
  · exact all2_spec p 10 _ h7 n (by omega) (by omega)
theorem Fl8 : Fl 8 = 4620693217682128896 := by kernel_rfl
theorem Fl2 : Fl 2 = 4611686018427387904 := by kernel_rfl
theorem Fl1 : Fl 1 = 4607182418800017408 := by kernel_rfl
theorem Fl0 : Fl 0 = 0 := by kernel_rfl
theorem Fl1000 : Fl 1000 = 4652007308841189376 := by kernel_rfl
theorem quo8 {n : Nat} (h : n < 8192) : floatBits .quo .f64 (Fl n) 4620693217682128896 = some (Qf n 3) := by
  have := eights (p := quoOk 3) quoAll8_0 quoAll8_1 quoAll8_2 quoAll8_3 quoAll8_4 quoAll8_5 quoAll8_6 quoAll8_7 h
  rw [← Fl8]
  exact eq_of_beq this
theorem quo2 {n : Nat} (h : n < 1024) : floatBits .quo .f64 (Fl n) 4611686018427387904 = some (Qf n 1) := by
  have := all2_spec (quoOk 1) 10 0 quoAll2 n (by omega) (by simpa using h)
  rw [← Fl2]
  exact eq_of_beq this
theorem floor8 {n : Nat} (h : n < 8192) : FloatKind.f64.encode ((FloatKind.f64.decode (Qf n 3)).integral .down) = Fl (n / 8) ∧ (FloatKind.f64.decode (Qf n 3)).isNaN = false := by
  have := eights (p := floorOk 3) floorAll8_0 floorAll8_1 floorAll8_2 floorAll8_3 floorAll8_4 floorAll8_5 floorAll8_6 floorAll8_7 h
  unfold floorOk at this
  rw [Bool.and_eq_true, Bool.not_eq_true'] at this
  exact ⟨eq_of_beq this.1, this.2⟩
theorem floor2 {n : Nat} (h : n < 1024) : FloatKind.f64.encode ((FloatKind.f64.decode (Qf n 1)).integral .down) = Fl (n / 2) ∧ (FloatKind.f64.decode (Qf n 1)).isNaN = false := by
  have := all2_spec (floorOk 1) 10 0 floorAll2 n (by omega) (by simpa using h)
  unfold floorOk at this
  rw [Bool.and_eq_true, Bool.not_eq_true'] at this
  exact ⟨eq_of_beq this.1, this.2⟩
end Go.Proofs.Ytabclpffjpcejaa
