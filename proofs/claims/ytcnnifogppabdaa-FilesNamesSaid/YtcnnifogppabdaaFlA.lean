/-
  A disk of files over plain lists: what it has, and what each call makes of it. No memory.
-/
import Derived.Test.YtcnnifogppabdaaNmM
namespace Go.Proofs.Ytcnnifogppabdaa
set_option linter.unusedVariables false

/-- A file: its name, its bytes, how many are synced. -/
structure Fil where
  n : Bs
  d : Bs
  s : Nat
def find (S : List Fil) (n : Bs) : Option Fil := S.find? (fun f => f.n == n)
def used (S : List Fil) : Nat := (S.map (fun f => f.d.length)).sum
def upd (S : List Fil) (x : Fil) : List Fil := S.map (fun f => if f.n == x.n then x else f)
/-- Ahead of the first one with a greater name. -/
def ins : List Fil → Fil → List Fil
  | [], x => [x]
  | f :: S, x => if Op.bytesLess x.n f.n then x :: f :: S else f :: ins S x
def rid (S : List Fil) (n : Bs) : List Fil := S.filter (fun f => !(f.n == n))
def Uniq (S : List Fil) : Prop := S.Pairwise (fun f g => f.n ≠ g.n)

theorem find_some {S : List Fil} {n : Bs} {f : Fil} (h : find S n = some f) : f ∈ S ∧ f.n = n := by
  unfold find at h
  exact ⟨List.mem_of_find?_eq_some h, by simpa using List.find?_some h⟩
theorem find_none {S : List Fil} {n : Bs} : find S n = none ↔ ∀ f ∈ S, f.n ≠ n := by
  unfold find
  simp [List.find?_eq_none]
theorem uniq_eq {S : List Fil} (hU : Uniq S) : ∀ {f g : Fil}, f ∈ S → g ∈ S → f.n = g.n → f = g := by
  unfold Uniq at hU
  induction S with
  | nil => intro f g hf; cases hf
  | cons x S ih =>
    obtain ⟨h1, h2⟩ := List.pairwise_cons.1 hU
    intro f g hf hg e
    rcases List.mem_cons.1 hf with ef | hf'
    · rcases List.mem_cons.1 hg with eg | hg'
      · rw [ef, eg]
      · exact absurd (ef ▸ e) (h1 g hg')
    · rcases List.mem_cons.1 hg with eg | hg'
      · exact absurd (eg ▸ e).symm (h1 f hf')
      · exact ih h2 hf' hg' e
theorem find_mem {S : List Fil} (hU : Uniq S) {f : Fil} (hf : f ∈ S) : find S f.n = some f := by
  cases h : find S f.n with
  | none => exact absurd rfl (find_none.1 h f hf)
  | some g => obtain ⟨hg, e⟩ := find_some h; rw [uniq_eq hU hg hf e]

theorem mem_ins {S : List Fil} {x f : Fil} : f ∈ ins S x ↔ f = x ∨ f ∈ S := by
  induction S with
  | nil => simp [ins]
  | cons g S ih =>
    unfold ins
    split
    · simp
    · rw [List.mem_cons, ih, List.mem_cons]
      constructor
      · rintro (h | h | h)
        · exact .inr (.inl h)
        · exact .inl h
        · exact .inr (.inr h)
      · rintro (h | h | h)
        · exact .inr (.inl h)
        · exact .inl h
        · exact .inr (.inr h)
theorem ins_uniq {S : List Fil} {x : Fil} (hU : Uniq S) (hx0 : find S x.n = none) : Uniq (ins S x) := by
  have hx := find_none.1 hx0
  clear hx0
  unfold Uniq at hU ⊢
  induction S with
  | nil => simp [ins]
  | cons g S ih =>
    obtain ⟨h1, h2⟩ := List.pairwise_cons.1 hU
    unfold ins
    split
    · exact List.pairwise_cons.2 ⟨fun f hf => (hx f hf).symm, hU⟩
    · refine List.pairwise_cons.2 ⟨fun f hf => ?_, ih h2 (fun f hf => hx f (List.mem_cons_of_mem _ hf))⟩
      rcases mem_ins.1 hf with rfl | hf
      · exact hx g List.mem_cons_self
      · exact h1 f hf
theorem find_of {S : List Fil} (hU : Uniq S) {n : Bs} {o : Option Fil} (h : ∀ f, o = some f → f ∈ S ∧ f.n = n) (h0 : o = none → ∀ f ∈ S, f.n ≠ n) : find S n = o := by
  cases o with
  | none => exact find_none.2 (h0 rfl)
  | some f => obtain ⟨h1, h2⟩ := h f rfl; rw [← h2]; exact find_mem hU h1
theorem find_ins {S : List Fil} {x : Fil} (hU : Uniq S) (hx : find S x.n = none) (n : Bs) : find (ins S x) n = if n = x.n then some x else find S n := by
  by_cases e : n = x.n
  · rw [if_pos e, e]
    exact find_mem (ins_uniq hU hx) (mem_ins.2 (.inl rfl))
  · rw [if_neg e]
    refine find_of (ins_uniq hU hx) (fun f hf => ?_) (fun h0 f hf => ?_)
    · obtain ⟨h1, h2⟩ := find_some hf
      exact ⟨mem_ins.2 (.inr h1), h2⟩
    · rcases mem_ins.1 hf with rfl | hf
      · exact fun h => e h.symm
      · exact find_none.1 h0 f hf
theorem used_ins (S : List Fil) (x : Fil) : used (ins S x) = used S + x.d.length := by
  induction S with
  | nil => simp [ins, used]
  | cons g S ih =>
    unfold ins
    split
    · simp [used]; omega
    · simp only [used, List.map_cons, List.sum_cons] at ih ⊢
      omega
theorem ins_len (S : List Fil) (x : Fil) : (ins S x).length = S.length + 1 := by
  induction S with
  | nil => simp [ins]
  | cons g S ih =>
    unfold ins
    split
    · simp
    · simp [ih]

theorem mem_upd {S : List Fil} {x f : Fil} (hU : Uniq S) (hx : (find S x.n).isSome) : f ∈ upd S x ↔ f = x ∨ (f ∈ S ∧ f.n ≠ x.n) := by
  unfold upd
  rw [List.mem_map]
  constructor
  · rintro ⟨g, hg, rfl⟩
    by_cases e : g.n = x.n
    · left; simp [e]
    · right; simp [e, hg]
  · rintro (rfl | ⟨h1, h2⟩)
    · obtain ⟨g, hg⟩ := Option.isSome_iff_exists.1 hx
      obtain ⟨h1, h2⟩ := find_some hg
      exact ⟨g, h1, by simp [h2]⟩
    · exact ⟨f, h1, by simp [h2]⟩
theorem upd_names (S : List Fil) (x : Fil) : (upd S x).map (·.n) = S.map (·.n) := by
  unfold upd
  rw [List.map_map]
  refine List.map_congr_left fun f _ => ?_
  by_cases e : f.n = x.n <;> simp [e]
theorem uniq_names {S : List Fil} : Uniq S ↔ (S.map (·.n)).Pairwise (· ≠ ·) := by unfold Uniq; rw [List.pairwise_map]
theorem upd_uniq {S : List Fil} {x : Fil} (hU : Uniq S) : Uniq (upd S x) := by
  rw [uniq_names] at hU ⊢
  rw [upd_names]; exact hU
theorem find_upd {S : List Fil} {x : Fil} (hU : Uniq S) (hx : (find S x.n).isSome) (n : Bs) : find (upd S x) n = if n = x.n then some x else find S n := by
  by_cases e : n = x.n
  · rw [if_pos e, e]
    exact find_mem (upd_uniq hU) ((mem_upd hU hx).2 (.inl rfl))
  · rw [if_neg e]
    refine find_of (upd_uniq hU) (fun f hf => ?_) (fun h0 f hf => ?_)
    · obtain ⟨h1, h2⟩ := find_some hf
      exact ⟨(mem_upd hU hx).2 (.inr ⟨h1, by rw [h2]; exact e⟩), h2⟩
    · rcases (mem_upd hU hx).1 hf with rfl | ⟨hf, _⟩
      · exact fun h => e h.symm
      · exact find_none.1 h0 f hf
theorem used_miss {S : List Fil} {x : Fil} (h : ∀ f ∈ S, f.n ≠ x.n) : upd S x = S := by
  unfold upd
  conv => rhs; rw [← List.map_id S]
  refine List.map_congr_left fun f hf => ?_
  simp [h f hf]
theorem used_upd {S : List Fil} {x f : Fil} (hU : Uniq S) (hf : find S x.n = some f) : used (upd S x) + f.d.length = used S + x.d.length := by
  obtain ⟨h1, h2⟩ := find_some hf
  clear hf
  induction S with
  | nil => cases h1
  | cons g S ih =>
    obtain ⟨k1, k2⟩ := List.pairwise_cons.1 hU
    by_cases e : g.n = x.n
    · have hr : ∀ u ∈ S, u.n ≠ x.n := fun u hu => by rw [← e]; exact (k1 u hu).symm
      obtain rfl : f = g := by
        rcases List.mem_cons.1 h1 with h | h
        · exact h
        · exact absurd h2 (hr f h)
      have hm := used_miss hr
      unfold upd at hm ⊢
      simp only [used, List.map_cons, List.sum_cons, hm]
      simp [e]
      omega
    · have hfS : f ∈ S := by
        rcases List.mem_cons.1 h1 with h | h
        · exact absurd (h ▸ h2) e
        · exact h
      have := ih k2 hfS
      have e2 : upd (g :: S) x = g :: upd S x := by
        show (if g.n == x.n then x else g) :: upd S x = _
        simp [e]
      rw [e2]
      simp only [used, List.map_cons, List.sum_cons] at this ⊢
      omega
theorem upd_len (S : List Fil) (x : Fil) : (upd S x).length = S.length := by simp [upd]

theorem mem_rid {S : List Fil} {n : Bs} {f : Fil} : f ∈ rid S n ↔ f ∈ S ∧ f.n ≠ n := by simp [rid]
theorem rid_uniq {S : List Fil} {n : Bs} (hU : Uniq S) : Uniq (rid S n) := List.Pairwise.filter _ hU
theorem find_rid {S : List Fil} (hU : Uniq S) (n m : Bs) : find (rid S n) m = if m = n then none else find S m := by
  by_cases e : m = n
  · rw [if_pos e]
    exact find_none.2 fun f hf => by rw [e]; exact (mem_rid.1 hf).2
  · rw [if_neg e]
    refine find_of (rid_uniq hU) (fun f hf => ?_) (fun h0 f hf => find_none.1 h0 f (mem_rid.1 hf).1)
    obtain ⟨h1, h2⟩ := find_some hf
    exact ⟨mem_rid.2 ⟨h1, by rw [h2]; exact e⟩, h2⟩
theorem rid_miss {S : List Fil} {n : Bs} (h : find S n = none) : rid S n = S := by
  unfold rid
  rw [List.filter_eq_self]
  intro f hf
  simp [find_none.1 h f hf]
theorem used_rid {S : List Fil} {n : Bs} {f : Fil} (hU : Uniq S) (hf : find S n = some f) : used (rid S n) + f.d.length = used S := by
  obtain ⟨h1, h2⟩ := find_some hf
  clear hf
  induction S with
  | nil => cases h1
  | cons g S ih =>
    obtain ⟨k1, k2⟩ := List.pairwise_cons.1 hU
    by_cases e : g.n = n
    · have hr : ∀ u ∈ S, u.n ≠ n := fun u hu => by rw [← e]; exact (k1 u hu).symm
      obtain rfl : f = g := by
        rcases List.mem_cons.1 h1 with h | h
        · exact h
        · exact absurd h2 (hr f h)
      have hm := rid_miss (find_none.2 hr)
      unfold rid at hm ⊢
      rw [List.filter_cons_of_neg (by simp [e]), hm]
      simp only [used, List.map_cons, List.sum_cons]
      omega
    · have hfS : f ∈ S := by
        rcases List.mem_cons.1 h1 with h | h
        · exact absurd (h ▸ h2) e
        · exact h
      have := ih k2 hfS
      unfold rid at this ⊢
      rw [List.filter_cons_of_pos (by simp [e])]
      simp only [used, List.map_cons, List.sum_cons] at this ⊢
      omega
theorem len_le_used {S : List Fil} {f : Fil} (h : f ∈ S) : f.d.length ≤ used S := by
  induction S with
  | nil => cases h
  | cons g S ih =>
    simp only [used, List.map_cons, List.sum_cons] at ih ⊢
    rcases List.mem_cons.1 h with rfl | h
    · omega
    · have := ih h; omega

/-! ### the disk -/
structure Dk where
  S : List Fil
  room : Nat
  short : Int
  fuse : Int
structure Dk.Ok (D : Dk) : Prop where
  u : Uniq D.S
  room : D.room ≤ 1099511627776
  used : used D.S ≤ 1125899906842624
  len : ∀ f ∈ D.S, f.d.length ≤ 1048576 ∧ f.s ≤ f.d.length
  short : -1 ≤ D.short ∧ D.short ≤ 9223372036854775807
  fuse : -1 ≤ D.fuse ∧ D.fuse ≤ 9223372036854775807
def okC (c : UInt8) : Bool := (97 ≤ c && c ≤ 122) || (48 ≤ c && c ≤ 57) || c == 45 || c == 46
def canN (n : Bs) : Bool := decide (1 ≤ n.length) && decide (n.length ≤ 32) && n.all okC
/-- What is left of the fuse. -/
def burnt (f : Int) : Int := if f = -1 then -1 else f - 1
def cutTo (short : Int) (b : Bs) : Bs := if short ≠ -1 ∧ short < b.length then b.take short.toNat else b
def oldLen (S : List Fil) (n : Bs) : Nat := match find S n with | some f => f.d.length | none => 0
def put (S : List Fil) (n b : Bs) : List Fil := match find S n with | some f => upd S ⟨n, f.d ++ b, f.s⟩ | none => ins S ⟨n, b, 0⟩
def fits (S : List Fil) (room : Nat) (n b : Bs) : Bool := decide (oldLen S n + b.length ≤ 1048576) && decide (used S + b.length ≤ room)
/-- Append: how many, the error, the disk. -/
def appendD (D : Dk) (n b : Bs) : Int × Int × Dk :=
  if canN n = false then (0, 1, D)
  else if D.fuse = 0 then (0, 62, D)
  else if fits D.S D.room n (cutTo D.short b) = false then (0, 4, { D with short := -1, fuse := burnt D.fuse })
  else ((cutTo D.short b).length, if D.short ≠ -1 ∧ D.short < b.length then 61 else 0, { D with S := put D.S n (cutTo D.short b), short := -1, fuse := burnt D.fuse })
theorem used_put {S : List Fil} (hU : Uniq S) (n b : Bs) : used (put S n b) = used S + b.length := by
  unfold put
  cases h : find S n with
  | none => exact used_ins S _
  | some f =>
    have := used_upd (S := S) (x := ⟨n, f.d ++ b, f.s⟩) hU h
    simp at this
    show used (upd S _) = _
    omega
theorem put_uniq {S : List Fil} (hU : Uniq S) (n b : Bs) : Uniq (put S n b) := by
  unfold put
  cases h : find S n with
  | none => exact ins_uniq hU h
  | some f => exact upd_uniq hU
theorem find_put {S : List Fil} (hU : Uniq S) (n b m : Bs) : find (put S n b) m = if m = n then some (match find S n with | some f => ⟨n, f.d ++ b, f.s⟩ | none => ⟨n, b, 0⟩) else find S m := by
  unfold put
  cases h : find S n with
  | none => exact find_ins (x := ⟨n, b, 0⟩) hU h m
  | some f => exact find_upd (x := ⟨n, f.d ++ b, f.s⟩) hU (by rw [show (⟨n, f.d ++ b, f.s⟩ : Fil).n = n from rfl, h]; rfl) m
theorem cutTo_len (s : Int) (b : Bs) : (cutTo s b).length ≤ b.length := by
  unfold cutTo
  split
  · rw [List.length_take]; omega
  · omega
end Go.Proofs.Ytcnnifogppabdaa
