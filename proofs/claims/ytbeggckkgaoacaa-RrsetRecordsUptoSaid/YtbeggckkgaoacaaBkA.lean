/-
  The records of a set, grouped, are it: plainly.
-/
import Derived.Test.YtbeggckkgaoacaaEd
namespace Go.Proofs.Ytbeggckkgaoacaa
open Go.RowKit
set_option linter.unusedVariables false
set_option maxRecDepth 100000

theorem groups_same {L : List Rr} {k : Bs × Int × Int} (h : ∀ r ∈ L, keyR r = k) (h0 : L ≠ []) : groupsP L = [L] := by
  obtain ⟨hn, hm⟩ := firsts_all L
  have hk : ∀ x ∈ (firstsP L).map keyR, x = k := fun x hx => by
    obtain ⟨r, hr, rfl⟩ := List.mem_map.1 ((hm x).1 hx)
    exact h r hr
  have hin : k ∈ (firstsP L).map keyR := by
    rw [hm k]
    obtain ⟨r, hr⟩ := List.exists_mem_of_ne_nil L h0
    exact List.mem_map.2 ⟨r, hr, h r hr⟩
  rcases hf : firstsP L with _ | ⟨f, _ | ⟨g, t⟩⟩
  · rw [hf] at hin; simp at hin
  · have hfk : keyR f = k := hk _ (by rw [hf]; simp)
    unfold groupsP
    rw [hf, List.map_cons, List.map_nil, List.filter_eq_self.2 (fun r hr => isK_iff.2 ((h r hr).trans hfk.symm))]
  · have h1 : keyR f = k := hk _ (by rw [hf]; simp)
    have h2 : keyR g = k := hk _ (by rw [hf]; simp)
    rw [hf] at hn
    simp [h1, h2] at hn
theorem least_stay {x : Int} : ∀ g : List Rr, (∀ r ∈ g, lastN r.ttl = x) → leastP x g = x
  | [], _ => rfl
  | r :: g, h => by
    unfold leastP
    rw [List.foldl_cons, h r (by simp), show min x x = x by omega]
    exact least_stay g (fun q hq => h q (by simp [hq]))
theorem least_all {x m : Int} {g : List Rr} (h : ∀ r ∈ g, lastN r.ttl = x) (h0 : g ≠ []) (hx : x ≤ m) : leastP m g = x := by
  match g, h0 with
  | r :: g, _ =>
    unfold leastP
    rw [List.foldl_cons, h r (by simp), show min m x = x by omega]
    exact least_stay g (fun q hq => h q (by simp [hq]))
theorem lastN_id {x : Int} (h0 : 0 ≤ x) (h1 : x ≤ 86400) : lastN x = x := by unfold lastN; rw [if_neg (by omega)]; omega

theorem back_plain {rank now at' : Int} {M : List Rr} {s : St} (h : s ∈ groupP rank now M) (h0 : 0 ≤ now) (h1 : now ≤ at') (h2 : at' ≤ 1099511541376) (h3 : at' < s.ex) : groupP rank at' (recsP s at') = [s] := by
  have hex := (group_fact h).2.1
  have hc0 : clockN now = now := by unfold clockN; omega
  have hc1 : clockN at' = at' := by unfold clockN; omega
  rw [hc0] at hex
  unfold groupP at h
  obtain ⟨hg, hcs⟩ := List.mem_filter.1 h
  obtain ⟨g, hg, hsg⟩ := List.mem_map.1 hg
  obtain ⟨g0, g1, g2⟩ := group_mem hg
  obtain ⟨i, hi, rfl⟩ := List.mem_iff_getElem.1 hg
  have hi' : i < (firstsP (M.filter canRR)).length := by rw [groups_len] at hi; exact hi
  have hhead := groups_head (M.filter canRR) i hi'
  have hkey : ∀ r ∈ (groupsP (M.filter canRR))[i], keyR r = keyR (firstsP (M.filter canRR))[i] := fun r hr => by
    simp only [groupsP, List.getElem_map, List.mem_filter] at hr
    exact isK_iff.1 hr.2
  generalize (groupsP (M.filter canRR))[i] = g at *
  generalize (firstsP (M.filter canRR))[i] = f at *
  rw [set_head hhead, hc0] at hsg
  have hf : f ∈ g := List.mem_of_mem_head? hhead
  have hcf := (List.mem_filter.1 (g2 f hf)).2
  have hd : ∀ d ∈ s.ds, ∃ r ∈ g, r.d = d := fun d hd => by
    rw [← hsg] at hd
    have hd : d ∈ orderP (g.map (·.d)) := hd
    rw [mem_order] at hd
    obtain ⟨r, hr, e⟩ := List.mem_map.1 hd
    exact ⟨r, hr, e⟩
  have hkd : s.kd = 0 := by rw [← hsg]
  have hfr : freshN s at' = true := by unfold freshN; rw [hc1]; simpa using h3
  have hR : recsP s at' = s.ds.map (recP s (s.ex - at')) := by rw [recsP_live hkd hfr, hc1]
  have hcan : ∀ r ∈ s.ds.map (recP s (s.ex - at')), canRR r = true := fun r hr => by
    obtain ⟨d, hd', rfl⟩ := List.mem_map.1 hr
    obtain ⟨q, hq, rfl⟩ := hd d hd'
    have hk := hkey q hq
    have hcq := (List.mem_filter.1 (g2 q hq)).2
    simp only [keyR, Prod.mk.injEq] at hk
    unfold canRR at hcf hcq ⊢
    simp only [Bool.and_eq_true] at hcf hcq ⊢
    have e1 : s.n = f.n := by rw [← hsg]
    have e2 : s.t = f.t := by rw [← hsg]
    have e3 : s.c = f.c := by rw [← hsg]
    refine ⟨?_, ?_, ?_, ?_⟩
    · show can s.n = true; rw [e1]; exact hcf.1
    · show rangeN 1 s.t = true; rw [e2]; exact hcf.2.1
    · show rangeN 0 s.c = true; rw [e3]; exact hcf.2.2.1
    · show canD s.t q.d = true; rw [e2, ← hk.2.1]; exact hcq.2.2.2
  have hne : s.ds ≠ [] := by
    rw [← hsg]
    show orderP (g.map (·.d)) ≠ []
    intro e
    have : f.d ∈ orderP (g.map (·.d)) := mem_order.2 (List.mem_map.2 ⟨f, hf, rfl⟩)
    rw [e] at this
    cases this
  have hnr : s.ds.map (recP s (s.ex - at')) ≠ [] := by simpa using hne
  have hsame : groupsP (s.ds.map (recP s (s.ex - at'))) = [s.ds.map (recP s (s.ex - at'))] := groups_same (k := (lower s.n, s.t, s.c)) (fun r hr => by
    obtain ⟨d, hd', rfl⟩ := List.mem_map.1 hr
    rfl) hnr
  have hrk : s.rk = rank := by rw [← hsg]
  have hz : s.z = [] := by rw [← hsg]
  have hds : orderP s.ds = s.ds := by
    rw [← hsg]
    show orderP (orderP (g.map (·.d))) = orderP (g.map (·.d))
    exact order_up (up_order _)
  have hset : setP rank at' (s.ds.map (recP s (s.ex - at'))) = s := by
    have hl : leastP 86400 (s.ds.map (recP s (s.ex - at'))) = s.ex - at' := least_all (fun r hr => by
      obtain ⟨d, hd', rfl⟩ := List.mem_map.1 hr
      exact lastN_id (by show 0 ≤ s.ex - at'; omega) (by show s.ex - at' ≤ 86400; omega)) hnr (by omega)
    have hm : (s.ds.map (recP s (s.ex - at'))).map (·.d) = s.ds := by rw [List.map_map]; exact List.map_id _
    obtain ⟨q, hq⟩ : ∃ q, (s.ds.map (recP s (s.ex - at'))).head? = some q := by
      cases hx : s.ds.map (recP s (s.ex - at')) with
      | nil => exact absurd hx hnr
      | cons a b => exact ⟨a, rfl⟩
    rw [set_head hq, hl, hm, hds, hc1]
    have hqm := List.mem_of_mem_head? hq
    obtain ⟨d, hd', rfl⟩ := List.mem_map.1 hqm
    have e : at' + (s.ex - at') = s.ex := by omega
    rw [e, ← hrk]
    cases s
    simp only [recP] at hkd hz ⊢
    rw [hkd, hz]
  unfold groupP
  rw [hR, List.filter_eq_self.2 hcan, hsame, List.map_cons, List.map_nil, hset, List.filter_cons, if_pos hcs, List.filter_nil]
end Go.Proofs.Ytbeggckkgaoacaa
