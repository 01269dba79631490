/-
  Questions, records and messages: as plain lists, and in memory.
-/
import Derived.Test.YtknpkifhkefikaaDoorGb
import Derived.Deep.MidRow
namespace Go.Proofs.YtknpkifhkefikaaDoor
open Go.RowKit
set_option linter.unusedVariables false
set_option maxRecDepth 100000

structure Qu where
  n : Bs
  t : Int
  c : Int
structure Rr where
  n : Bs
  t : Int
  c : Int
  ttl : Int
  d : Bs
structure Hd where
  i : Int
  r : Bool
  o : Int
  aa : Bool
  tc : Bool
  rd : Bool
  ra : Bool
  c : Int
structure Msg where
  h : Hd
  q : List Qu
  an : List Rr
  au : List Rr
  ad : List Rr

def sameQ (a b : Qu) : Bool := a.n == b.n && (a.t == b.t && a.c == b.c)
def sameR (a b : Rr) : Bool := a.n == b.n && (a.t == b.t && (a.c == b.c && (a.ttl == b.ttl && a.d == b.d)))
def sameH (a b : Hd) : Bool := a.i == b.i && (a.r == b.r && (a.o == b.o && (a.aa == b.aa && (a.tc == b.tc && (a.rd == b.rd && (a.ra == b.ra && a.c == b.c))))))
def sameL {α : Type} (f : α → α → Bool) : List α → List α → Bool
  | [], [] => true
  | a :: A, b :: B => f a b && sameL f A B
  | _, _ => false
def sameM (a b : Msg) : Bool := sameH a.h b.h && (sameL sameQ a.q b.q && (sameL sameR a.an b.an && (sameL sameR a.au b.au && sameL sameR a.ad b.ad)))

theorem sameQ_self (a : Qu) : sameQ a a = true := by simp [sameQ]
theorem sameR_self (a : Rr) : sameR a a = true := by simp [sameR]
theorem sameH_self (a : Hd) : sameH a a = true := by simp [sameH]
theorem sameL_self {α : Type} {f : α → α → Bool} (hf : ∀ a, f a a = true) : ∀ l : List α, sameL f l l = true
  | [] => rfl
  | a :: l => by simp [sameL, hf a, sameL_self hf l]
theorem sameM_self (m : Msg) : sameM m m = true := by
  unfold sameM
  rw [sameH_self, sameL_self sameQ_self, sameL_self sameR_self, sameL_self sameR_self, sameL_self sameR_self]; rfl
theorem sameL_len {α : Type} {f : α → α → Bool} : ∀ {l m : List α}, l.length ≠ m.length → sameL f l m = false
  | [], [], h => absurd rfl h
  | [], _ :: _, _ => rfl
  | _ :: _, [], _ => rfl
  | a :: l, b :: m, h => by simp [sameL, sameL_len (l := l) (m := m) (fun e => h (by simp [e]))]
theorem sameL_at {α : Type} {f : α → α → Bool} {l m : List α} {k : Nat} (h1 : k < l.length) (h2 : k < m.length) : sameL f (l.drop k) (m.drop k) = (f l[k] m[k] && sameL f (l.drop (k + 1)) (m.drop (k + 1))) := by
  rw [List.drop_eq_getElem_cons h1, List.drop_eq_getElem_cons h2]; rfl
theorem sameL_end {α : Type} {f : α → α → Bool} {l m : List α} {k : Nat} (h1 : l.length ≤ k) (h2 : m.length ≤ k) : sameL f (l.drop k) (m.drop k) = true := by
  rw [List.drop_eq_nil_of_le h1, List.drop_eq_nil_of_le h2]; rfl
theorem sameR_iff {a b : Rr} : sameR a b = true ↔ a = b := by
  cases a; cases b; simp [sameR]
theorem sameQ_iff {a b : Qu} : sameQ a b = true ↔ a = b := by
  cases a; cases b; simp [sameQ]
theorem sameH_iff {a b : Hd} : sameH a b = true ↔ a = b := by
  cases a; cases b; simp [sameH]
theorem sameL_iff {α : Type} {f : α → α → Bool} (hf : ∀ a b, f a b = true ↔ a = b) : ∀ {l m : List α}, sameL f l m = true ↔ l = m
  | [], [] => by simp [sameL]
  | [], _ :: _ => by simp [sameL]
  | _ :: _, [] => by simp [sameL]
  | a :: l, b :: m => by simp [sameL, hf, sameL_iff hf (l := l) (m := m)]
theorem sameM_iff {a b : Msg} : sameM a b = true ↔ a = b := by
  cases a; cases b
  simp [sameM, sameH_iff, sameL_iff (fun a b => sameQ_iff (a := a) (b := b)), sameL_iff (fun a b => sameR_iff (a := a) (b := b))]

/-- A question's cells, a record's, a header's. -/
def quL (q : Qu) : List Value := [.string (bs q.n), .int .i64 q.t, .int .i64 q.c]
def quC (q : Qu) : Array Value := (quL q).toArray
def rrL (r : Rr) (A : Option Addr) (c : Nat) : List Value := [.string (bs r.n), .int .i64 r.t, .int .i64 r.c, .int .i64 r.ttl, .slice A r.d.length c]
def rrC (r : Rr) (A : Option Addr) (c : Nat) : Array Value := (rrL r A c).toArray
def hdC (h : Hd) : Array Value := #[.int .i64 h.i, .bool h.r, .int .i64 h.o, .bool h.aa, .bool h.tc, .bool h.rd, .bool h.ra, .int .i64 h.c]
/-- Data that lie where a slice says. -/
structure Dat (w : World) (A : Option Addr) (c : Nat) (d : Bs) : Prop where
  bys : Bys w A d
  le : d.length ≤ c
  max : c ≤ 9223372036854775807
  nil : A = none → c = 0
theorem Dat.on {w w1 : World} {A : Option Addr} {c : Nat} {d : Bs} (h : Dat w A c d) (hB : Below w.heap.size w w1) : Dat w1 A c d := ⟨h.bys.on hB, h.le, h.max, h.nil⟩
def Qs (w : World) (A : Option Addr) (L : List Qu) : Prop := 0 < L.length → ∃ g off, A = some ⟨g, off, none⟩ ∧ ∀ j (h : j < L.length), w.rangeAt g (off + j * 3) (quL L[j])
def Rs (w : World) (A : Option Addr) (L : List Rr) : Prop := 0 < L.length → ∃ g off, A = some ⟨g, off, none⟩ ∧ ∀ j (h : j < L.length), ∃ a c, Dat w a c (L[j]).d ∧ w.rangeAt g (off + j * 5) (rrL L[j] a c)
theorem Qs.on {w w1 : World} {A : Option Addr} {L : List Qu} (h : Qs w A L) (hB : Below w.heap.size w w1) : Qs w1 A L := fun hn => by
  obtain ⟨g, off, hA, hc⟩ := h hn
  exact ⟨g, off, hA, fun j hj => range_on (hc j hj) hB⟩
theorem Rs.on {w w1 : World} {A : Option Addr} {L : List Rr} (h : Rs w A L) (hB : Below w.heap.size w w1) : Rs w1 A L := fun hn => by
  obtain ⟨g, off, hA, hc⟩ := h hn
  refine ⟨g, off, hA, fun j hj => ?_⟩
  obtain ⟨a, c, h0, h1⟩ := hc j hj
  exact ⟨a, c, h0.on hB, range_on h1 hB⟩

theorem rr_one (r : Rr) (A : Option Addr) (c : Nat) : (rrC r A c).all (·.oneCell') = true := by simp [rrC, rrL, Value.oneCell']
theorem qu_one (q : Qu) : (quC q).all (·.oneCell') = true := by simp [quC, quL, Value.oneCell']
theorem rr_size (r : Rr) (A : Option Addr) (c : Nat) : (rrC r A c).size = 5 := rfl
theorem qu_size (q : Qu) : (quC q).size = 3 := rfl
theorem info_qu : (Tryd.prog.info? 44).map (·.size) = some 3 := by kernel_rfl
theorem info_rr : (Tryd.prog.info? 72).map (·.size) = some 5 := by kernel_rfl
end Go.Proofs.YtknpkifhkefikaaDoor
