/-
  append as an answer of the machine, from any source; bytes cut to a length; small disks.
-/
import Derived.Test.YtcnnifogppabdaaFlJ
import Derived.Test.YtcnnifogppabdaaQc
namespace Go.Proofs.Ytcnnifogppabdaa
open Go.RowKit
set_option linter.unusedVariables false
set_option maxRecDepth 100000

theorem run_append_src {w : World} {base : Nat} {v : Value} {l : Bs} (ty : TypeId) (hown : OwnB w base v l) (A : Option Addr) (c m : Nat) (news : Bs) (hm : m = news.length) (hB : Bys w A news) (hA : A = none → c = 0)
    (hlen : l.length + news.length ≤ 140737488355328) (hbase : base ≤ w.heap.size) :
    ∃ v' w', (Builtin.append_ #[30, 30] ty #[v, .slice A m c]).run Try.prog w = .ok v' w' ∧ OwnB w' base v' (l ++ news) ∧ w.grownBy w' v.ownBlock := by
  cases A with
  | none =>
    have hn : news = [] := by
      rcases news with _ | ⟨b, r⟩
      · rfl
      · obtain ⟨g, off, hp, _⟩ := hB (by simp)
        cases hp
    subst hn
    obtain rfl := hA rfl
    obtain rfl : m = 0 := hm
    exact ⟨v, w, run_append_nilB ty hown, by simpa using hown, ⟨rfl, rfl, rfl, Nat.le_refl _, fun _ _ _ => rfl⟩⟩
  | some ad =>
    refine run_append_bys ty hown ad c m news hm _ rfl (fun j u hj => ?_) hlen hbase
    rw [List.getElem?_map] at hj
    cases hl : news[j]? with
    | none => rw [hl] at hj; cases hj
    | some b =>
      rw [hl] at hj
      injection hj with hj
      obtain ⟨hjl, hjb⟩ := List.getElem?_eq_some_iff.1 hl
      obtain ⟨g, off, hp, hcs⟩ := hB (by omega)
      injection hp with hp
      subst hp
      rw [show (⟨g, off, none⟩ : Addr).add j = ⟨g, off + j, none⟩ by unfold Addr.add; split <;> simp_all]
      rw [hcs j hjl, hjb, ← hj]
      rfl
/-- A place of up to so many. -/
theorem place_mod (t : Int) (k : Nat) (h0 : 0 < k) (h : k ≤ 1000000) : ∃ r : Nat, wrap64 ((IntKind.u64.wrap t).tmod k) = r ∧ r < k := by
  have h0 : 0 ≤ IntKind.u64.wrap t := by rw [IntKind.wrap_u64]; omega
  rw [Int.tmod_eq_emod_of_nonneg h0]
  generalize IntKind.u64.wrap t = u at *
  have h1 := Int.emod_nonneg u (b := (k : Int)) (by omega)
  have h2 := Int.emod_lt_of_pos u (b := (k : Int)) (by omega)
  generalize u % (k : Int) = r at *
  refine ⟨r.toNat, ?_, by omega⟩
  unfold wrap64
  omega
/-- One file. -/
def oneD (room : Nat) (n b : Bs) (s : Nat) (short fuse : Int) : Dk := ⟨[⟨n, b, s⟩], room, short, fuse⟩
theorem find_one (n b : Bs) (s : Nat) : find [⟨n, b, s⟩] n = some ⟨n, b, s⟩ := by simp [find]
theorem append_first {room : Nat} {n b : Bs} (hn : canN n = true) (hb : b.length ≤ 1048576) (hr : b.length ≤ room) : appendD (newD room) n b = ((b.length : Int), 0, oneD room n b 0 (-1) (-1)) := by
  unfold appendD newD
  rw [if_neg (by simp [hn]), if_neg (by simp)]
  have hc : cutTo (-1) b = b := by unfold cutTo; rw [if_neg (by simp)]
  simp only [hc]
  rw [if_neg (by simp [fits, oldLen, find, used, hb, hr])]
  simp [put, find, ins, oneD, burnt]
theorem append_cut {room : Nat} {n b : Bs} {r : Nat} (hn : canN n = true) (hb : b.length ≤ 1048576) (hr : b.length ≤ room) : appendD { newD room with short := (r : Int) } n b = (((min r b.length : Nat) : Int), if r < b.length then 61 else 0, oneD room n (b.take (min r b.length)) 0 (-1) (-1)) := by
  unfold appendD newD
  rw [if_neg (by simp [hn]), if_neg (by simp)]
  have hc : cutTo (r : Int) b = b.take (min r b.length) := by
    unfold cutTo
    by_cases h : r < b.length
    · rw [if_pos ⟨by omega, by omega⟩, Int.toNat_natCast, Nat.min_eq_left (by omega)]
    · rw [if_neg (by omega), Nat.min_eq_right (by omega), List.take_length]
  have hl : (b.take (min r b.length)).length = min r b.length := by rw [List.length_take]; omega
  simp only [hc]
  rw [if_neg (by simp [fits, oldLen, find, used]; omega)]
  simp only [put, find, ins, oneD, burnt, hl]
  have h1 : ((r : Int) ≠ -1 ∧ (r : Int) < (b.length : Int)) ↔ r < b.length := by constructor <;> intro h <;> omega
  simp only [h1]
  simp
theorem append_more {room : Nat} {n a b : Bs} {s : Nat} {f : Int} (hn : canN n = true) (hf : f ≠ 0) (hb : a.length + b.length ≤ 1048576) (hr : a.length + b.length ≤ room) : appendD (oneD room n a s (-1) f) n b = ((b.length : Int), 0, oneD room n (a ++ b) s (-1) (burnt f)) := by
  unfold appendD oneD
  rw [if_neg (by simp [hn]), if_neg hf]
  have hc : cutTo (-1) b = b := by unfold cutTo; rw [if_neg (by simp)]
  simp only [hc]
  rw [if_neg (by simp [fits, oldLen, find, used, hb, hr])]
  simp [put, find, upd]
end Go.Proofs.Ytcnnifogppabdaa
