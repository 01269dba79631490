/-
  Crash over a base; append onto a plain row as an answer of the machine; a small disk's crash.
-/
import Derived.Test.YtcnnifogppabdaaFlO
import Derived.Test.YtcnnifogppabdaaFlK
namespace Go.Proofs.Ytcnnifogppabdaa
open Go.RowKit Go.Maps
set_option linter.unusedVariables false
set_option maxRecDepth 100000

theorem crash_ok {D : Dk} (h : D.Ok) (L : List Tl) : Dk.Ok ⟨crashS L D.S, D.room, -1, -1⟩ := by
  refine ⟨?_, h.room, ?_, ?_, by simp, by simp⟩
  · have := h.u
    rw [uniq_names] at this ⊢
    show ((crashS L D.S).map _).Pairwise _
    unfold crashS
    rw [List.map_map]
    exact this
  · show used (crashS L D.S) ≤ _
    have e := (leftS_done (L := L) (left := fun _ => false) (S := D.S) (fun _ => rfl)).2
    rw [← e]
    exact Nat.le_trans (leftU_le fun f hf => (h.len f hf).2) h.used
  · intro f hf
    obtain ⟨g, hg, rfl⟩ := List.mem_map.1 hf
    obtain ⟨h1, h2⟩ := h.len g hg
    have h3 := crashF_le (firstT L g.n) h2
    have h4 := crashF_len (firstT L g.n) h2
    exact ⟨by show (crashF g _).d.length ≤ _; omega, by show (crashF g _).s ≤ (crashF g _).d.length; omega⟩
section
variable {P B N : Nat} {D : Dk}
theorem Crash_dk (A : Option Addr) (L : List Tl) (m c : Nat) (w : World) (h : DK P B N D w) (hm : m = L.length) (hS : Tls w A L) (hl : L.length ≤ 1000000000) (hn : ∀ x ∈ L, x.n.length ≤ maxLen) :
    Calls Try.prog 18 #[.pointer (some ⟨P, 0, none⟩), .slice A m c] w fun e w' => e = .returned (.int .i64 0) ∧ DK P B (N + 1) ⟨crashS L D.S, D.room, -1, -1⟩ w' ∧ Below B w w' := by
  obtain ⟨hok, hs, y, rfl, hD, hF, hyN⟩ := h
  subst hm
  refine (Crash_any A L c w hD hok hS hl hn).mono ?_
  rintro e w' ⟨rfl, hA⟩
  exact ⟨rfl, hA.dk (crash_ok hok L) rfl hF hs hyN⟩
end
theorem tls_one {w : World} {x : Tl} : Tls (w.alloc (.cells #[.string (bs x.n), .int .i64 x.k, .bool x.t] 44)) (some ⟨w.heap.size, 0, none⟩) [x] := fun _ => by
  refine ⟨_, 0, rfl, fun j hj i v hv => ?_⟩
  have hr := row_new (w := w) (k := w.heap.size) (.cells #[.string (bs x.n), .int .i64 x.k, .bool x.t] 44 (0, 0)) rfl
  refine (cell_of_row _ _ _ _ _ _ hr).trans ?_
  have : j = 0 := by simp at hj; omega
  subst this
  simp [tlL] at hv
  match i, hv with
  | 0, hv => simpa using hv
  | 1, hv => simpa using hv
  | 2, hv => simpa using hv
theorem tls_nil (w : World) (A : Option Addr) : Tls w A [] := fun h => absurd h (by simp)

theorem run_append_rowR {w : World} {v : Value} {l : Bs} (ty : TypeId) (hown : w.ownsRow 0 5 1 v l.length (l.map byteV)) (A : Option Addr) (c m : Nat) (news : Bs) (hm : m = news.length) (hB : Bys w A news) (hA : A = none → c = 0) (hlen : l.length + news.length ≤ 140737488355328) :
    ∃ v' w', (Builtin.append_ #[30, 30] ty #[v, .slice A m c]).run Try.prog w = .ok v' w' ∧ w'.ownsRow 0 5 1 v' (l ++ news).length ((l ++ news).map byteV) ∧ w.grownBy w' v.ownBlock ∧ (∀ k, v'.ownBlock = some k → v.ownBlock = some k ∨ w.heap.size ≤ k) := by
  obtain ⟨i0, hi, hz0, hz1, hz2⟩ := info_parts info_u8
  cases A with
  | none =>
    have hn : news = [] := by
      rcases news with _ | ⟨b, r⟩
      · rfl
      · obtain ⟨g, off, hp, _⟩ := hB (by simp)
        cases hp
    subst hn
    obtain rfl := hA rfl
    obtain rfl : m = 0 := hm
    exact ⟨v, w, run_append_nilR ty hown, by simpa using hown, ⟨rfl, rfl, rfl, Nat.le_refl _, fun _ _ _ => rfl⟩, fun k hk => .inl hk⟩
  | some ad =>
    obtain ⟨v', w', h0, h1, h2, h3, h4⟩ := run_append_own_at (P := Try.prog) w 0 30 ty 5 i0 (.int .u8 0) 1 1 Try.underlying30 hi hz0 hz1 hz2 rfl (by decide) v l.length (l.map byteV) hown ad m c (news.map byteV) (by simp [hm]) (fun j u hj => by
      rw [List.getElem?_map] at hj
      cases hl : news[j]? with
      | none => rw [hl] at hj; cases hj
      | some b =>
        rw [hl] at hj
        injection hj with hj
        obtain ⟨hjl, hjb⟩ := List.getElem?_eq_some_iff.1 hl
        obtain ⟨g, off, hp, hcs⟩ := hB (by omega)
        injection hp with hp
        subst hp
        rw [show (⟨g, off, none⟩ : Addr).add j = ⟨g, off + j, none⟩ by unfold Addr.add; split <;> simp_all]
        rw [hcs j hjl, hjb, ← hj]
        rfl) (fun u hu => by obtain ⟨b, _, rfl⟩ := List.mem_map.1 hu; rfl) (by unfold maxLen; omega) (by omega) (Nat.zero_le _)
    refine ⟨v', w', h0, by rw [List.length_append, List.map_append, ← hm]; exact h1, h2, fun k hk => ?_⟩
    rcases h4 with h4 | h4
    · exact .inl (h4 ▸ hk)
    · rw [h4] at hk
      injection hk with hk
      exact .inr (by omega)
/-- append, its slice and its world by name. -/
noncomputable def appV (v u : Value) (w : World) : Value := match (Builtin.append_ #[30, 30] 30 #[v, u]).run Try.prog w with
  | .ok a _ => a
  | .halt _ _ => undef
noncomputable def appW (v u : Value) (w : World) : World := match (Builtin.append_ #[30, 30] 30 #[v, u]).run Try.prog w with
  | .ok _ w' => w'
  | .halt _ w' => w'
theorem exec_appB0 (ev : Operand → Value) (d : Option Tmp) (x y : Operand) (t : TypeId) (p : String) (f : Array Edge) (w : World) : (execOp ev { dst := d, op := .call { callee := .builtin .append, args := #[x, y], argTypes := #[30, 30] }, type := t, pos := p, after := f, guard := none }).run Try.prog w = appB (ev x) (ev y) t w := by
  unfold execOp appB
  simp only [resolve, invoke, builtin, Sem.run_bind, Sem.run_pure, Result.andThen_ok, List.map_toArray, List.map_cons, List.map_nil]
theorem appB_VW {v u : Value} {w w' : World} {v' : Value} (h : (Builtin.append_ #[30, 30] 30 #[v, u]).run Try.prog w = .ok v' w') : appB v u 30 w = .ok (.value (appV v u w)) (appW v u w) ∧ appV v u w = v' ∧ appW v u w = w' := by
  have e1 : appV v u w = v' := by unfold appV; rw [h]
  have e2 : appW v u w = w' := by unfold appW; rw [h]
  exact ⟨by rw [e1, e2]; exact appB_of h, e1, e2⟩

theorem sync_one {room : Nat} {n b : Bs} {s : Nat} {f : Int} (hf : f ≠ 0) : syncD (oneD room n b s (-1) f) n = (0, oneD room n b b.length (-1) (burnt f)) := by
  unfold syncD oneD
  rw [if_neg hf]
  simp [find, upd]
theorem crash_one {room : Nat} {n X Y : Bs} (t : Tl) (ht : t.n = n) : (crashS [t] (oneD room n (X ++ Y) X.length (-1) (-1)).S) = (oneD room n (if 0 < min (max t.k 0).toNat Y.length ∧ t.t = true then turnLast (X ++ Y.take (min (max t.k 0).toNat Y.length)) else X ++ Y.take (min (max t.k 0).toNat Y.length)) (X.length + min (max t.k 0).toNat Y.length) (-1) (-1)).S := by
  have h1 : firstT [t] n = t := by simp [firstT, ht]
  have h2 : keptT ⟨n, X ++ Y, X.length⟩ t = min (max t.k 0).toNat Y.length := by unfold keptT; simp
  simp only [oneD, crashS, crashOf, crashF, List.map_cons, List.map_nil, h1, h2]
  have h3 : (X ++ Y).take (X.length + min (max t.k 0).toNat Y.length) = X ++ Y.take (min (max t.k 0).toNat Y.length) := by
    rw [List.take_append, List.take_of_length_le (by omega)]
    congr 2
    omega
  rw [h3]
end Go.Proofs.Ytcnnifogppabdaa
