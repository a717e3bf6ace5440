/- A long chain of clauses, plain. -/
import Derived.Test.YtoffhaamkhfdeaaLW
namespace Go.Proofs.Ytoffhaamkhfdeaa
open Go.RowKit Go.Conc
namespace L
open K

def chainL (m : Nat) : List (List Int) := (List.range m).map fun i : Nat => [-((i : Int) + 1), (i : Int) + 2]
theorem chainL_len (m : Nat) : (chainL m).length = m := by simp [chainL]
theorem chainL_succ (m : Nat) : chainL (m + 1) = chainL m ++ [[-((m : Int) + 1), (m : Int) + 2]] := by
  unfold chainL
  rw [List.range_succ, List.map_append]
  rfl
theorem chainL_mem {m : Nat} {c : List Int} (h : c ∈ chainL m) : ∃ i : Nat, i < m ∧ c = [-((i : Int) + 1), (i : Int) + 2] := by
  simp only [chainL, List.mem_map, List.mem_range] at h
  obtain ⟨i, h1, h2⟩ := h
  exact ⟨i, h1, h2.symm⟩
theorem chainL_in {m i : Nat} (h : i < m) : [-((i : Int) + 1), (i : Int) + 2] ∈ chainL m := by
  simp only [chainL, List.mem_map, List.mem_range]
  exact ⟨i, h, rfl⟩
theorem chain_val {m : Nat} : ∀ c ∈ chainL m, U.Val (m + 1) c := by
  intro c hc x hx
  obtain ⟨i, h1, rfl⟩ := chainL_mem hc
  simp at hx
  rcases hx with rfl | rfl <;> omega
theorem chain_i64 {m : Nat} (hm : m ≤ 2000) : ∀ c ∈ chainL m, ∀ x ∈ c, I64 x := fun c hc => val_i64 (n := m + 1) (by omega) (chain_val c hc)
theorem checkF_intro {n : Nat} {cs : List (List Int)} (hn : n ≤ 1048576) (hl : cs.length ≤ 1048576) (h : ∀ c ∈ cs, U.Val n c ∧ c.length ≤ 4096) : checkF n cs = 0 := by
  unfold checkF
  rw [if_neg (by omega), if_neg (by omega)]
  refine firstE_zero fun c hc => ?_
  obtain ⟨h1, h2⟩ := h c hc
  unfold checkE
  rw [if_neg (by omega), if_neg (by omega)]
  have : c.any (fun x => decide (x = 0) || decide ((n : Int) < av x)) = false := by
    rw [List.any_eq_false]
    intro x hx
    obtain ⟨h3, h4⟩ := h1 x hx
    simp only [Bool.or_eq_true, decide_eq_true_eq, not_or]
    refine ⟨h3, ?_⟩
    unfold av
    split <;> omega
  rw [this]; rfl
theorem chain_check {m : Nat} (hm : m ≤ 2000) : checkF ((m + 1 : Nat) : Int) (chainL m) = 0 :=
  checkF_intro (by omega) (by rw [chainL_len]; omega) fun c hc => ⟨chain_val c hc, by obtain ⟨i, _, rfl⟩ := chainL_mem hc; simp⟩

theorem chain_up {m : Nat} {A : List Int} (h : (1 : Int) ∈ A) : ∀ i : Nat, i ≤ m → U.Der (chainL m) A ((i : Int) + 1)
  | 0, _ => .assume (by simpa using h)
  | i + 1, hi => by
    have ih := chain_up (m := m) h i (by omega)
    have e : (((i + 1 : Nat) : Int) + 1) = (i : Int) + 2 := by omega
    rw [e]
    refine .unit (chainL_in (show i < m by omega)) (by simp) fun y hy hne => ?_
    simp at hy
    rcases hy with rfl | rfl
    · have e2 : -(-1 + -(i : Int)) = (i : Int) + 1 := by omega
      first
        | (rw [e2]; exact ih)
        | (have e3 : -(-((i : Int) + 1)) = (i : Int) + 1 := by omega
           rw [e3]; exact ih)
    · exact absurd rfl hne
theorem chain_down {m : Nat} {A : List Int} (h : -((m : Int) + 1) ∈ A) : ∀ j : Nat, j ≤ m → U.Der (chainL m) A (-(((m - j : Nat) : Int) + 1))
  | 0, _ => .assume (by simpa using h)
  | j + 1, hj => by
    have ih := chain_down h j (by omega)
    have e1 : ((m - j : Nat) : Int) + 1 = ((m - (j + 1) : Nat) : Int) + 2 := by omega
    rw [e1] at ih
    refine .unit (chainL_in (show m - (j + 1) < m by omega)) (by simp) fun y hy hne => ?_
    simp only [List.mem_cons, List.not_mem_nil, or_false] at hy
    rcases hy with rfl | rfl
    · exact absurd rfl hne
    · exact ih

def upL (k : Nat) : List Int := (List.range k).map fun i : Nat => (i : Int) + 1
def downL (k : Nat) : List Int := (List.range k).map fun i : Nat => -((i : Int) + 1)
theorem lits_up (m : Nat) : U.lits (m + 1) (fun x => 1 ≤ x ∧ x ≤ (m : Int) + 1) = upL (m + 1) := by
  unfold U.lits upL
  rw [List.range_succ_eq_map, List.map_cons, List.filter_cons]
  have e : U.pickL (fun x => 1 ≤ x ∧ x ≤ (m : Int) + 1) 0 = 0 := by unfold U.pickL; simp
  rw [e]
  simp only [ne_eq, not_true_eq_false, decide_false, Bool.false_eq_true, if_false, List.map_map]
  have e2 : ∀ v ∈ List.range (m + 1), (U.pickL (fun x => 1 ≤ x ∧ x ≤ (m : Int) + 1) ∘ Nat.succ) v = (v : Int) + 1 := by
    intro v hv
    rw [List.mem_range] at hv
    simp only [Function.comp, U.pickL]
    rw [if_pos (by omega)]
    omega
  rw [List.map_congr_left e2, List.filter_eq_self.2]
  intro x hx
  simp only [List.mem_map, List.mem_range] at hx
  obtain ⟨v, _, rfl⟩ := hx
  simp
  omega
theorem lits_down (m : Nat) : U.lits (m + 1) (fun x => -((m : Int) + 1) ≤ x ∧ x ≤ -1) = downL (m + 1) := by
  unfold U.lits downL
  rw [List.range_succ_eq_map, List.map_cons, List.filter_cons]
  have e : U.pickL (fun x => -((m : Int) + 1) ≤ x ∧ x ≤ -1) 0 = 0 := by unfold U.pickL; simp
  rw [e]
  simp only [ne_eq, not_true_eq_false, decide_false, Bool.false_eq_true, if_false, List.map_map]
  have e2 : ∀ v ∈ List.range (m + 1), (U.pickL (fun x => -((m : Int) + 1) ≤ x ∧ x ≤ -1) ∘ Nat.succ) v = -((v : Int) + 1) := by
    intro v hv
    rw [List.mem_range] at hv
    simp only [Function.comp, U.pickL]
    rw [if_neg (by omega), if_pos (by omega)]
    omega
  rw [List.map_congr_left e2, List.filter_eq_self.2]
  intro x hx
  simp only [List.mem_map, List.mem_range] at hx
  obtain ⟨v, _, rfl⟩ := hx
  simp
  omega
theorem chain_units_up (m : Nat) : U.unitsOf (m + 1) (chainL m) [1] = some (upL (m + 1)) := by
  rw [← lits_up]
  refine U.unitsOf_closed ⟨fun x hx => by simp at hx; omega, fun x h1 h2 => by omega, fun c hc => ?_⟩ fun x hx => ?_
  · obtain ⟨i, hi, rfl⟩ := chainL_mem hc
    exact .inl ⟨(i : Int) + 2, by simp, by omega⟩
  · have := chain_up (m := m) (A := [1]) (by simp) (x - 1).toNat (by omega)
    rwa [show (((x - 1).toNat : Nat) : Int) + 1 = x by omega] at this
theorem chain_units_down (m : Nat) : U.unitsOf (m + 1) (chainL m) [-((m : Int) + 1)] = some (downL (m + 1)) := by
  rw [← lits_down]
  refine U.unitsOf_closed ⟨fun x hx => by simp at hx; omega, fun x h1 h2 => by omega, fun c hc => ?_⟩ fun x hx => ?_
  · obtain ⟨i, hi, rfl⟩ := chainL_mem hc
    exact .inl ⟨-((i : Int) + 1), by simp, by omega⟩
  · have := chain_down (m := m) (A := [-((m : Int) + 1)]) (by simp) (m - (-x - 1).toNat) (by omega)
    rwa [show -(((m - (m - (-x - 1).toNat) : Nat) : Int) + 1) = x by omega] at this
theorem chain_fails {m : Nat} (hm : 1 ≤ m) : U.unitsOf (m + 1) (chainL m) [1, -((m : Int) + 1)] = none := by
  refine U.unitsOf_bad (.inr ⟨_, chainL_in (show m - 1 < m by omega), fun y hy => ?_⟩)
  simp only [List.mem_cons, List.not_mem_nil, or_false] at hy
  rcases hy with rfl | rfl
  · rw [Int.neg_neg]
    exact chain_up (by simp) (m - 1) (by omega)
  · refine .assume ?_
    simp
    omega
end L
end Go.Proofs.Ytoffhaamkhfdeaa
