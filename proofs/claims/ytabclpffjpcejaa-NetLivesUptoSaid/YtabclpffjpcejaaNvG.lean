/-
  Both nets side by side: the calls.
-/
import Derived.Test.YtabclpffjpcejaaNvF
namespace Go.Proofs.Ytabclpffjpcejaa
open Go.RowKit Go.Maps
set_option linter.unusedVariables false
set_option maxRecDepth 100000

section
variable {w wr : World} {k l1 l2 : Nat} {A1 A2 : List An} {b : Nat} {op n : Int} {da : Option Addr} {dm dc : Nat}
theorem inN {L : List Cn} {q : An} (h : q ∈ aN L) : ∃ c ∈ L, q = (c.id, (c.addr, c.b)) := by
  unfold aN at h; rw [List.mem_map] at h; obtain ⟨c, hc, e⟩ := h; exact ⟨c, hc, e.symm⟩
theorem inR {R : List Cr} {q : An} (h : q ∈ aR R) : ∃ (i : Nat) (hi : i < R.length), q = (R[i].id, (R[i].addr, R[i].b)) := by
  unfold aR at h; rw [List.mem_map] at h; obtain ⟨c, hc, e⟩ := h
  obtain ⟨i, hi, rfl⟩ := List.getElem_of_mem hc
  exact ⟨i, hi, e.symm⟩
theorem outN {L : List Cn} {a : Int} (h : ∀ q ∈ aN L, (q.1 : Int) ≠ a) : fnd L a = none := fnd_none.2 fun c hc => h (c.id, (c.addr, c.b)) (by unfold aN; rw [List.mem_map]; exact ⟨c, hc, rfl⟩)
theorem outR {R : List Cr} {a : Int} (h : ∀ q ∈ aR R, (q.1 : Int) ≠ a) : ∀ c ∈ R, (c.id : Int) ≠ a := fun c hc => h (c.id, (c.addr, c.b)) (by unfold aR; rw [List.mem_map]; exact ⟨c, hc, rfl⟩)
theorem setC_ids (L : List Cn) (x : Cn) : idsN (setC L x) = idsN L := by
  unfold idsN setC
  rw [List.map_map]
  refine List.map_congr_left fun c hc => ?_
  simp only [Function.comp]
  split
  · rename_i e; rw [e]
  · rfl
theorem dropC_rise {L : List Cn} (h : RiseN L) (a : Int) : RiseN (dropC L a) := by
  unfold RiseN idsN dropC at *
  exact h.sublist (List.Sublist.map _ List.filter_sublist)

theorem DialNH_no (h : NH w k l1 l2 A1 A2 wr) (a : Int) (ha : I64n a) (hr : a < 0 ∨ 4294967295 < a) :
    Calls Try.prog 13 #[.pointer (some ⟨w.heap.size + 1, 0, none⟩), .int .i64 a] wr fun e w' => e = .returned (.tuple #[.int .i64 0, .int .i64 1]) ∧ w' = wr := by
  obtain ⟨N, L, v, R, h1, h2, h3, h4, h5, hS, hr2, rfl, hR, rfl, ho, hF, hW⟩ := h
  exact Dial_no wr hS a ha hr
theorem DialNH_yes (h : NH w k l1 l2 A1 A2 wr) (hd : DnRow b op n da dm dc wr) (hk : k ≤ 1000) (a : Nat) (ha : a ≤ 4294967295) :
    Calls Try.prog 13 #[.pointer (some ⟨w.heap.size + 1, 0, none⟩), .int .i64 a] wr fun e w' => e = .returned (.tuple #[.int .i64 ((l1 : Int) + 1), .int .i64 0]) ∧ NH w (k + 1) (l1 + 1) l2 (A1 ++ [(l1 + 1, ((a : Int), []))]) A2 w' ∧ DnRow b op n da dm dc w' := by
  obtain ⟨N, L, v, R, h1, h2, h3, h4, h5, hS, hr, rfl, hR, rfl, ho, hF, hW⟩ := h
  refine (Dial_yes wr hS (by omega) (by omega) a ha).mono ?_
  rintro e w' ⟨rfl, L', ⟨g, rfl⟩, hS', hM, hF'⟩
  have := NH.landed (k' := k + 1) hS hR ho hF hW hS' hM hF' (by omega) (by omega) (by omega) (by simp; omega) (by omega) (rise_snoc hr hS.le (by simp))
  refine ⟨by simp, ?_, (hM.block _ (Array.getElem?_eq_some_iff.1 hd).1 (dnN hS hd)).trans hd⟩
  simpa [aN] using this
theorem DialRH_yes (h : NH w k l1 l2 A1 A2 wr) (hd : DnRow b op n da dm dc wr) (hk : k ≤ 1000) (a : Nat) (ha : a ≤ 4294967295) :
    Calls Try.prog 14 #[.pointer (some ⟨w.heap.size + 2, 0, none⟩), .int .i64 a] wr fun e w' => e = .returned (.tuple #[.int .i64 ((l2 : Int) + 1), .int .i64 0]) ∧ NH w (k + 1) l1 (l2 + 1) A1 (A2 ++ [(l2 + 1, ((a : Int), []))]) w' ∧ DnRow b op n da dm dc w' := by
  obtain ⟨N, L, v, R, h1, h2, h3, h4, h5, hS, hr, rfl, hR, rfl, ho, hF, hW⟩ := h
  refine (DialR_yes wr hR hW.size (by omega) (by omega) a ha).mono ?_
  rintro e w' ⟨rfl, v', hR', hM, hv⟩
  have := NH.doc (k' := k + 1) hS hr hR ho hF hW hR' hM (fun c hc => by
    rw [List.mem_append, List.mem_singleton] at hc
    rcases hc with hc | rfl
    · exact .inl hc
    · exact .inr fun i hi => by simp [Value.ownBlock] at hi) (by omega) (by omega) (by omega) (by omega) (by simp; omega)
  refine ⟨rfl, ?_, (hM.block _ (Array.getElem?_eq_some_iff.1 hd).1 (dnR hR hd)).trans hd⟩
  simpa [aR] using this
theorem WriteNH_no (h : NH w k l1 l2 A1 A2 wr) (a : Int) (ha : I64n a) (hq : ∀ q ∈ A1, (q.1 : Int) ≠ a) (A : Option Addr) (m c : Nat) :
    Calls Try.prog 15 #[.pointer (some ⟨w.heap.size + 1, 0, none⟩), .int .i64 a, .slice A m c] wr fun e w' => e = .returned (.int .i64 150) ∧ w' = wr := by
  obtain ⟨N, L, v, R, h1, h2, h3, h4, h5, hS, hr, rfl, hR, rfl, ho, hF, hW⟩ := h
  exact Write_no wr hS a ha (outN hq) A m c
theorem WriteRH_no (h : NH w k l1 l2 A1 A2 wr) (hk : k ≤ 1000) (a : Int) (hq : ∀ q ∈ A2, (q.1 : Int) ≠ a) (A : Option Addr) (m c : Nat) :
    Calls Try.prog 16 #[.pointer (some ⟨w.heap.size + 2, 0, none⟩), .int .i64 a, .slice A m c] wr fun e w' => e = .returned (.int .i64 150) ∧ Below wr.heap.size wr w' := by
  obtain ⟨N, L, v, R, h1, h2, h3, h4, h5, hS, hr, rfl, hR, rfl, ho, hF, hW⟩ := h
  exact WriteR_no wr hR (by omega) a (outR hq) A m c
theorem WriteNH_yes (h : NH w k l1 l2 A1 A2 wr) (hd : DnRow b op n da dm dc wr) (q : An) (hq : q ∈ A1) (hi : I64n (q.1 : Int)) (A : Option Addr) (y : Bs) (m c : Nat) (hm : m = y.length) (hy : Bys wr A y) (hA : A = none → c = 0) (hlen : q.2.2.length + y.length ≤ 140737488355328) :
    Calls Try.prog 15 #[.pointer (some ⟨w.heap.size + 1, 0, none⟩), .int .i64 q.1, .slice A m c] wr fun e w' => e = .returned (.int .i64 0) ∧ NH w k l1 l2 (setA A1 q.1 (q.2.2 ++ y)) A2 w' ∧ DnRow b op n da dm dc w' := by
  obtain ⟨N, L, v, R, h1, h2, h3, h4, h5, hS, hr, rfl, hR, rfl, ho, hF, hW⟩ := h
  obtain ⟨x, hx, rfl⟩ := inN hq
  refine (Write_yes wr hS (x.id : Int) hi (fnd_mem hS.uq hx) A y m c hm hy hA hlen).mono ?_
  rintro e w' ⟨rfl, L', ⟨v', rfl⟩, hS', hM, hF'⟩
  have := NH.landed (k' := k) hS hR ho hF hW hS' hM hF' h1 h2 h3 (by unfold setC; rw [List.length_map]; exact h4) h5 (by unfold RiseN; rw [setC_ids]; exact hr)
  rw [aN_set hS.uq hx] at this
  exact ⟨rfl, this, (hM.block _ (Array.getElem?_eq_some_iff.1 hd).1 (dnN hS hd)).trans hd⟩
theorem WriteRH_yes (h : NH w k l1 l2 A1 A2 wr) (hk : k ≤ 1000) (hd : DnRow b op n da dm dc wr) (q : An) (hq : q ∈ A2) (A : Option Addr) (y : Bs) (m c : Nat) (hm : m = y.length) (hy : Bys wr A y) (hA : A = none → c = 0) (hlen : q.2.2.length + y.length ≤ 140737488355328) :
    Calls Try.prog 16 #[.pointer (some ⟨w.heap.size + 2, 0, none⟩), .int .i64 q.1, .slice A m c] wr fun e w' => e = .returned (.int .i64 0) ∧ NH w k l1 l2 A1 (setA A2 q.1 (q.2.2 ++ y)) w' ∧ DnRow b op n da dm dc w' := by
  obtain ⟨N, L, v, R, h1, h2, h3, h4, h5, hS, hr, rfl, hR, rfl, ho, hF, hW⟩ := h
  obtain ⟨i, hi, rfl⟩ := inR hq
  refine (WriteR_yes wr hR hW.size (by omega) i hi A y m c hm hy hA hlen).mono ?_
  rintro e w' ⟨rfl, v', hR', hM, hv⟩
  have := NH.doc (k' := k) hS hr hR ho hF hW hR' hM (fun c hc => by
    rcases List.mem_or_eq_of_mem_set hc with h | h
    · exact .inl h
    · subst h; exact .inr hv) h1 h2 h3 h4 (by rw [List.length_set]; exact h5)
  rw [aR_set hR.rise hi] at this
  exact ⟨rfl, this, (hM.block _ (Array.getElem?_eq_some_iff.1 hd).1 (dnR hR hd)).trans hd⟩
theorem DropNH_no (h : NH w k l1 l2 A1 A2 wr) (a : Int) (ha : I64n a) (hq : ∀ q ∈ A1, (q.1 : Int) ≠ a) :
    Calls Try.prog 20 #[.pointer (some ⟨w.heap.size + 1, 0, none⟩), .int .i64 a] wr fun e w' => e = .returned (.int .i64 150) ∧ w' = wr := by
  obtain ⟨N, L, v, R, h1, h2, h3, h4, h5, hS, hr, rfl, hR, rfl, ho, hF, hW⟩ := h
  exact Drop_no wr hS a ha (outN hq)
theorem DropRH_no (h : NH w k l1 l2 A1 A2 wr) (hk : k ≤ 1000) (a : Int) (hq : ∀ q ∈ A2, (q.1 : Int) ≠ a) :
    Calls Try.prog 21 #[.pointer (some ⟨w.heap.size + 2, 0, none⟩), .int .i64 a] wr fun e w' => e = .returned (.int .i64 150) ∧ Below wr.heap.size wr w' := by
  obtain ⟨N, L, v, R, h1, h2, h3, h4, h5, hS, hr, rfl, hR, rfl, ho, hF, hW⟩ := h
  exact DropR_no wr hR (by omega) a (outR hq)
theorem DropNH_yes (h : NH w k l1 l2 A1 A2 wr) (hd : DnRow b op n da dm dc wr) (q : An) (hq : q ∈ A1) (hi : I64n (q.1 : Int)) :
    Calls Try.prog 20 #[.pointer (some ⟨w.heap.size + 1, 0, none⟩), .int .i64 q.1] wr fun e w' => e = .returned (.int .i64 0) ∧ NH w k l1 l2 (dropA A1 q.1) A2 w' ∧ DnRow b op n da dm dc w' := by
  obtain ⟨N, L, v, R, h1, h2, h3, h4, h5, hS, hr, rfl, hR, rfl, ho, hF, hW⟩ := h
  obtain ⟨x, hx, rfl⟩ := inN hq
  refine (Drop_yes wr hS (x.id : Int) hi (fnd_mem hS.uq hx)).mono ?_
  rintro e w' ⟨rfl, hS', hM⟩
  have := NH.landed (k' := k) hS hR ho hF hW hS' hM (fun i hi => .inl (foot_sub (fun c hc => (mem_dropC.1 hc).1) hi)) h1 h2 h3 (Nat.le_trans (List.length_filter_le _ _) h4) h5 (dropC_rise hr _)
  rw [aN_drop] at this
  exact ⟨rfl, this, (hM.block _ (Array.getElem?_eq_some_iff.1 hd).1 (dnN hS hd)).trans hd⟩
theorem DropRH_yes (h : NH w k l1 l2 A1 A2 wr) (hk : k ≤ 1000) (hd : DnRow b op n da dm dc wr) (q : An) (hq : q ∈ A2) :
    Calls Try.prog 21 #[.pointer (some ⟨w.heap.size + 2, 0, none⟩), .int .i64 q.1] wr fun e w' => e = .returned (.int .i64 0) ∧ NH w k l1 l2 A1 (dropA A2 q.1) w' ∧ DnRow b op n da dm dc w' := by
  obtain ⟨N, L, v, R, h1, h2, h3, h4, h5, hS, hr, rfl, hR, rfl, ho, hF, hW⟩ := h
  obtain ⟨i, hi, rfl⟩ := inR hq
  refine (DropR_yes wr hR hW.size (by omega) i hi).mono ?_
  rintro e w' ⟨rfl, v', hR', hM, hv⟩
  have := NH.doc (k' := k) hS hr hR ho hF hW hR' hM (fun c hc => .inl (by
    rcases List.mem_append.1 hc with h | h
    · exact List.mem_of_mem_take h
    · exact List.mem_of_mem_drop h)) h1 h2 h3 h4 (by simp; omega)
  rw [aR_drop hR.rise hi] at this
  exact ⟨rfl, this, (hM.block _ (Array.getElem?_eq_some_iff.1 hd).1 (dnR hR hd)).trans hd⟩
theorem TakeNH_no (h : NH w k l1 l2 A1 A2 wr) (a : Int) (ha : I64n a) (hq : ∀ q ∈ A1, (q.1 : Int) ≠ a) :
    Calls Try.prog 17 #[.pointer (some ⟨w.heap.size + 1, 0, none⟩), .int .i64 a] wr fun e w' => e = .returned (.tuple #[.slice none 0 0, .int .i64 150]) ∧ w' = wr := by
  obtain ⟨N, L, v, R, h1, h2, h3, h4, h5, hS, hr, rfl, hR, rfl, ho, hF, hW⟩ := h
  exact Take_no wr hS a ha (outN hq)
theorem TakeRH_no (h : NH w k l1 l2 A1 A2 wr) (hk : k ≤ 1000) (a : Int) (hq : ∀ q ∈ A2, (q.1 : Int) ≠ a) :
    Calls Try.prog 18 #[.pointer (some ⟨w.heap.size + 2, 0, none⟩), .int .i64 a] wr fun e w' => e = .returned (.tuple #[.slice none 0 0, .int .i64 150]) ∧ Below wr.heap.size wr w' := by
  obtain ⟨N, L, v, R, h1, h2, h3, h4, h5, hS, hr, rfl, hR, rfl, ho, hF, hW⟩ := h
  exact TakeR_no wr hR (by omega) a (outR hq)
theorem TakeNH_yes (h : NH w k l1 l2 A1 A2 wr) (hd : DnRow b op n da dm dc wr) (q : An) (hq : q ∈ A1) (hi : I64n (q.1 : Int)) (hlen : q.2.2.length ≤ 140737488351232) :
    Calls Try.prog 17 #[.pointer (some ⟨w.heap.size + 1, 0, none⟩), .int .i64 q.1] wr fun e w' => ∃ u, e = .returned (.tuple #[u, .int .i64 0]) ∧ Bv w' w.heap.size u q.2.2 ∧ NH w k l1 l2 (setA A1 q.1 []) A2 w' ∧ DnRow b op n da dm dc w' := by
  obtain ⟨N, L, v, R, h1, h2, h3, h4, h5, hS, hr, rfl, hR, rfl, ho, hF, hW⟩ := h
  obtain ⟨x, hx, rfl⟩ := inN hq
  refine (Take_yes wr hS (x.id : Int) hi (fnd_mem hS.uq hx) hlen).mono ?_
  rintro e w' ⟨v', rfl, hown, L', ⟨v2, rfl⟩, hS', hM, hF'⟩
  have := NH.landed (k' := k) hS hR ho hF hW hS' hM (fun i hi => .inl (hF' i hi)) h1 h2 h3 (by unfold setC; rw [List.length_map]; exact h4) h5 (by unfold RiseN; rw [setC_ids]; exact hr)
  rw [aN_set hS.uq hx] at this
  refine ⟨v', rfl, ⟨hown.1, ?_⟩, this, (hM.block _ (Array.getElem?_eq_some_iff.1 hd).1 (dnN hS hd)).trans hd⟩
  rcases hown.2 with h | ⟨g, cap, cur, hv, hb, r⟩
  · exact .inl h
  · exact .inr ⟨g, cap, cur, hv, Nat.le_trans hW.size hb, r⟩
theorem TakeRH_yes (h : NH w k l1 l2 A1 A2 wr) (hk : k ≤ 1000) (hd : DnRow b op n da dm dc wr) (q : An) (hq : q ∈ A2) :
    Calls Try.prog 18 #[.pointer (some ⟨w.heap.size + 2, 0, none⟩), .int .i64 q.1] wr fun e w' => ∃ u, e = .returned (.tuple #[u, .int .i64 0]) ∧ Bv w' w.heap.size u q.2.2 ∧ NH w k l1 l2 A1 (setA A2 q.1 []) w' ∧ DnRow b op n da dm dc w' ∧ ∀ u y, Bv wr w.heap.size u y → Bv w' w.heap.size u y := by
  obtain ⟨N, L, v, R, h1, h2, h3, h4, h5, hS, hr, rfl, hR, rfl, ho, hF, hW⟩ := h
  obtain ⟨i, hi, rfl⟩ := inR hq
  refine (TakeR_yes wr hR (by omega) i hi).mono ?_
  rintro e w' ⟨rfl, hbv, hR', hM⟩
  have := NH.doc (k' := k) hS hr hR ho hF hW hR' hM (fun c hc => by
    rcases List.mem_or_eq_of_mem_set hc with h | h
    · exact .inl h
    · subst h; exact .inr (fun i hi => by simp [Value.ownBlock] at hi)) h1 h2 h3 h4 (by rw [List.length_set]; exact h5)
  rw [aR_set hR.rise hi] at this
  refine ⟨_, rfl, hbv, this, (hM.block _ (Array.getElem?_eq_some_iff.1 hd).1 (dnR hR hd)).trans hd, fun u y hu => own_mod hu hM (fun j hj hf => ?_)⟩
  obtain ⟨_, cur, h6⟩ := vrow_lt hu hj
  obtain ⟨cs, h7 | h7⟩ := hR.kind hf
  · exact rows_ne h6 h7 (by intro e; cases e)
  · exact rows_ne h6 h7 (by intro e; cases e)
theorem AddrNH_no (h : NH w k l1 l2 A1 A2 wr) (a : Int) (ha : I64n a) (hq : ∀ q ∈ A1, (q.1 : Int) ≠ a) :
    Calls Try.prog 22 #[.pointer (some ⟨w.heap.size + 1, 0, none⟩), .int .i64 a] wr fun e w' => e = .returned (.tuple #[.int .i64 0, .bool false]) ∧ w' = wr := by
  obtain ⟨N, L, v, R, h1, h2, h3, h4, h5, hS, hr, rfl, hR, rfl, ho, hF, hW⟩ := h
  exact Addr_no wr hS a ha (outN hq)
theorem AddrRH_no (h : NH w k l1 l2 A1 A2 wr) (hk : k ≤ 1000) (a : Int) (hq : ∀ q ∈ A2, (q.1 : Int) ≠ a) :
    Calls Try.prog 23 #[.pointer (some ⟨w.heap.size + 2, 0, none⟩), .int .i64 a] wr fun e w' => e = .returned (.tuple #[.int .i64 0, .bool false]) ∧ Below wr.heap.size wr w' := by
  obtain ⟨N, L, v, R, h1, h2, h3, h4, h5, hS, hr, rfl, hR, rfl, ho, hF, hW⟩ := h
  exact AddrR_no wr hR (by omega) a (outR hq)
theorem AddrNH_yes (h : NH w k l1 l2 A1 A2 wr) (q : An) (hq : q ∈ A1) (hi : I64n (q.1 : Int)) :
    Calls Try.prog 22 #[.pointer (some ⟨w.heap.size + 1, 0, none⟩), .int .i64 q.1] wr fun e w' => e = .returned (.tuple #[.int .i64 q.2.1, .bool true]) ∧ w' = wr := by
  obtain ⟨N, L, v, R, h1, h2, h3, h4, h5, hS, hr, rfl, hR, rfl, ho, hF, hW⟩ := h
  obtain ⟨x, hx, rfl⟩ := inN hq
  exact Addr_yes wr hS (x.id : Int) hi (fnd_mem hS.uq hx)
theorem AddrRH_yes (h : NH w k l1 l2 A1 A2 wr) (hk : k ≤ 1000) (q : An) (hq : q ∈ A2) :
    Calls Try.prog 23 #[.pointer (some ⟨w.heap.size + 2, 0, none⟩), .int .i64 q.1] wr fun e w' => e = .returned (.tuple #[.int .i64 q.2.1, .bool true]) ∧ Below wr.heap.size wr w' := by
  obtain ⟨N, L, v, R, h1, h2, h3, h4, h5, hS, hr, rfl, hR, rfl, ho, hF, hW⟩ := h
  obtain ⟨i, hi, rfl⟩ := inR hq
  exact AddrR_yes wr hR (by omega) i hi
theorem ConnsNH (h : NH w k l1 l2 A1 A2 wr) (hk : k ≤ 1000) :
    Calls Try.prog 25 #[.pointer (some ⟨w.heap.size + 1, 0, none⟩)] wr fun e w' => ∃ u, e = .returned u ∧ OwnI w' wr.heap.size u (A1.map fun q => (q.1 : Int)) ∧ Below wr.heap.size wr w' := by
  obtain ⟨N, L, v, R, h1, h2, h3, h4, h5, hS, hr, rfl, hR, rfl, ho, hF, hW⟩ := h
  rw [aN_ids]
  exact Conns_any wr hS hr (by omega)
theorem ConnsRH (h : NH w k l1 l2 A1 A2 wr) (hk : k ≤ 1000) :
    Calls Try.prog 26 #[.pointer (some ⟨w.heap.size + 2, 0, none⟩)] wr fun e w' => ∃ u, e = .returned u ∧ OwnI w' wr.heap.size u (A2.map fun q => (q.1 : Int)) ∧ Below wr.heap.size wr w' := by
  obtain ⟨N, L, v, R, h1, h2, h3, h4, h5, hS, hr, rfl, hR, rfl, ho, hF, hW⟩ := h
  rw [aR_ids]
  exact ConnsR_any wr hR (by omega)
end
end Go.Proofs.Ytabclpffjpcejaa
