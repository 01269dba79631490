/-
  Events: as plain data, in memory; what a reply must have in common with its query.
-/
import Derived.Test.YtkihlcecjcjmlaaWmA
namespace Go.Proofs.Ytkihlcecjcjmlaa
open Go.RowKit
set_option linter.unusedVariables false
set_option maxRecDepth 100000

structure Ev where
  rep : Bool
  st : Int
  tm : Int
  h : Hd
  q : List Qu
/-- Where an event's lists lie. -/
structure EV where
  aq : Option Addr
  cq : Nat
  a1 : Option Addr
  n1 : Nat
  c1 : Nat
  a2 : Option Addr
  n2 : Nat
  c2 : Nat
  a3 : Option Addr
  n3 : Nat
  c3 : Nat
def evL (e : Ev) (v : EV) : List Value := [.bool e.rep, .int .i64 e.st, .int .i64 e.tm, .int .i64 e.h.i, .bool e.h.r, .int .i64 e.h.o, .bool e.h.aa, .bool e.h.tc, .bool e.h.rd, .bool e.h.ra, .int .i64 e.h.c, .slice v.aq e.q.length v.cq, .slice v.a1 v.n1 v.c1, .slice v.a2 v.n2 v.c2, .slice v.a3 v.n3 v.c3]
def evC (e : Ev) (v : EV) : Array Value := (evL e v).toArray
theorem ev_one (e : Ev) (v : EV) : (evC e v).all (·.oneCell') = true := by simp [evC, evL, Value.oneCell']
/-- Numbers that an int holds, names that a text holds. -/
def I64a (n : Int) : Prop := -9223372036854775808 ≤ n ∧ n ≤ 9223372036854775807
structure QuOk (q : Qu) : Prop where
  n : q.n.length ≤ 9223372036854775807
  t : I64a q.t
  c : I64a q.c
structure EvOk (e : Ev) : Prop where
  st : I64a e.st
  i : I64a e.h.i
  o : I64a e.h.o
  q : ∀ x ∈ e.q, QuOk x
structure EvAt (w : World) (e : Ev) (v : EV) : Prop where
  q : Qs w v.aq e.q
  l : e.q.length ≤ v.cq
  m : v.cq ≤ 9223372036854775807
  ok : EvOk e
theorem EvAt.on {w w1 : World} {e : Ev} {v : EV} (h : EvAt w e v) (hB : Below w.heap.size w w1) : EvAt w1 e v := ⟨h.q.on hB, h.l, h.m, h.ok⟩
def Evs (w : World) (A : Option Addr) (L : List Ev) : Prop := 0 < L.length → ∃ g off, A = some ⟨g, off, none⟩ ∧ ∀ j (h : j < L.length), ∃ v, EvAt w L[j] v ∧ w.rangeAt g (off + j * 15) (evL L[j] v)
theorem Evs.on {w w1 : World} {A : Option Addr} {L : List Ev} (h : Evs w A L) (hB : Below w.heap.size w w1) : Evs w1 A L := fun hn => by
  obtain ⟨g, off, hA, hc⟩ := h hn
  refine ⟨g, off, hA, fun j hj => ?_⟩
  obtain ⟨v, h0, h1⟩ := hc j hj
  exact ⟨v, h0.on hB, range_on h1 hB⟩
theorem info_ev : (Try.prog.info? 31).map (·.size) = some 15 := by kernel_rfl

/-- What a reply must have in common with its query. -/
structure Ask where
  st : Int
  i : Int
  o : Int
  rd : Bool
  n : Bs
  t : Int
  c : Int
deriving DecidableEq
def askE (e : Ev) : Option Ask := match e.q with
  | [q] => some ⟨e.st, e.h.i, e.h.o, e.h.rd, q.n, q.t, q.c⟩
  | _ => none
structure AskOk (k : Ask) : Prop where
  st : I64a k.st
  i : I64a k.i
  o : I64a k.o
  n : k.n.length ≤ 9223372036854775807
  t : I64a k.t
  c : I64a k.c
theorem askE_ok {e : Ev} {k : Ask} (h : EvOk e) (hk : askE e = some k) : AskOk k := by
  unfold askE at hk
  split at hk
  · rename_i q hq
    injection hk with hk
    subst hk
    have := h.q q (by rw [hq]; exact List.mem_singleton.2 rfl)
    exact ⟨h.st, h.i, h.o, this.n, this.t, this.c⟩
  · cases hk
theorem askE_none {e : Ev} (h : e.q.length ≠ 1) : askE e = none := by
  unfold askE
  split
  · rename_i q hq; rw [hq] at h; exact absurd rfl h
  · rfl
theorem askE_some {e : Ev} {q : Qu} (h : e.q = [q]) : askE e = some ⟨e.st, e.h.i, e.h.o, e.h.rd, q.n, q.t, q.c⟩ := by
  unfold askE
  rw [h]

/-- How many queries with an ask have no reply yet. -/
def cntE (L : List Ev) (k : Ask) : Int := L.foldl (fun n e => if askE e = some k then (if e.rep then n - 1 else n + 1) else n) 0
theorem cntE_nil (k : Ask) : cntE [] k = 0 := rfl
theorem cntE_snoc (L : List Ev) (e : Ev) (k : Ask) : cntE (L ++ [e]) k = if askE e = some k then (if e.rep then cntE L k - 1 else cntE L k + 1) else cntE L k := by
  unfold cntE
  rw [List.foldl_append]
  rfl
theorem cntE_le (L : List Ev) (k : Ask) : -(L.length : Int) ≤ cntE L k ∧ cntE L k ≤ L.length := by
  have : ∀ (L : List Ev) (n : Int), n - L.length ≤ L.foldl (fun n e => if askE e = some k then (if e.rep then n - 1 else n + 1) else n) n ∧ L.foldl (fun n e => if askE e = some k then (if e.rep then n - 1 else n + 1) else n) n ≤ n + L.length := by
    intro L
    induction L with
    | nil => intro n; simp
    | cons a L ih =>
      intro n
      simp only [List.foldl_cons, List.length_cons]
      by_cases hk : askE a = some k
      · cases hr : a.rep
        · have h1 := ih (n + 1)
          rw [if_pos hk, if_neg (by simp)]
          omega
        · have h1 := ih (n - 1)
          rw [if_pos hk, if_pos rfl]
          omega
      · have h1 := ih n
        rw [if_neg hk]
        omega
  have h := this L 0
  unfold cntE
  omega
/-- Whether an event behind others is all right. -/
def okE (L : List Ev) (e : Ev) : Bool := !e.rep || (match askE e with
  | none => false
  | some k => cntE L k != 0 && (e.h.r && e.h.ra))
def pairedP (L : List Ev) : Bool := (List.range L.length).all fun i => match L[i]? with
  | some e => okE (L.take i) e
  | none => true
theorem pairedP_iff (L : List Ev) : pairedP L = true ↔ ∀ i (h : i < L.length), okE (L.take i) L[i] = true := by
  unfold pairedP
  rw [List.all_eq_true]
  constructor
  · intro h i hi
    have := h i (List.mem_range.2 hi)
    rw [List.getElem?_eq_getElem hi] at this
    exact this
  · intro h i hi
    rw [List.mem_range] at hi
    rw [List.getElem?_eq_getElem hi]
    exact h i hi
theorem pairedP_false {L : List Ev} {i : Nat} (h : i < L.length) (hn : okE (L.take i) L[i] = false) : pairedP L = false := by
  rw [Bool.eq_false_iff]
  intro ht
  have := (pairedP_iff L).1 ht i h
  rw [hn] at this
  cases this
end Go.Proofs.Ytkihlcecjcjmlaa
