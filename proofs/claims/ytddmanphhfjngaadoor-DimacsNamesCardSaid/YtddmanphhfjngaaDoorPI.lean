/- Plain: the examples of the chapter. No program. -/
import Derived.Test.YtddmanphhfjngaaDoorPF
namespace Go.Proofs.PA
open Go.Lib

/-- The texts that are no formulas: the text, the line, the error. -/
def badT : List (List UInt8 × Int × Int) := [
  ([], 1, 4),
  ([99], 2, 4),
  ([112, 32, 99, 110, 102, 32, 50], 1, 4),
  ([112, 32, 99, 110, 102, 32, 50, 32, 45, 49], 1, 4),
  ([112, 32, 99, 110, 102, 32, 49, 48, 52, 56, 53, 55, 55, 32, 48], 1, 3),
  ([112, 32, 99, 110, 102, 32, 48, 32, 49, 48, 52, 56, 53, 55, 55], 1, 5),
  ([112, 32, 99, 110, 102, 32, 50, 32, 49, 10, 49, 32, 51, 32, 48], 2, 3),
  ([112, 32, 99, 110, 102, 32, 50, 32, 49, 10, 49, 32, 120, 32, 48], 2, 4),
  ([112, 32, 99, 110, 102, 32, 50, 32, 49, 10, 49, 32, 48, 50, 32, 48], 2, 4),
  ([112, 32, 99, 110, 102, 32, 50, 32, 49, 10, 49, 32, 48, 10, 50, 32, 48], 3, 4),
  ([112, 32, 99, 110, 102, 32, 50, 32, 49, 10, 49, 32, 50], 3, 4),
  ([112, 32, 99, 110, 102, 32, 50, 32, 49, 10, 49, 32, 50, 10], 3, 4),
  ([112, 32, 99, 110, 102, 32, 50, 32, 49, 10, 49, 32, 45, 48], 2, 4),
  ([112, 32, 99, 110, 102, 32, 50, 32, 49, 10, 43, 49, 32, 48], 2, 4),
  ([10, 112, 32, 99, 110, 102, 32, 50, 32, 48, 10, 48], 3, 4),
  ([112, 32, 99, 110, 102, 32, 50, 32, 49, 10, 45, 57, 57, 57, 57, 57, 57, 57, 57, 57, 57, 57, 57, 57, 57, 57, 57, 57, 57, 57, 57, 57, 57, 57, 32, 48], 2, 3),
  ([112, 32, 99, 110, 102, 32, 50, 32, 57, 57, 57, 57, 57, 57, 57, 57, 57, 57, 57, 57, 57, 57, 57, 57, 57, 57, 57, 57, 57, 57, 57], 1, 5),
  ([112, 32, 99, 110, 102, 32, 57, 57, 57, 57, 57, 57, 57, 57, 57, 57, 57, 57, 57, 57, 57, 57, 57, 57, 57, 57, 57, 57, 57, 32, 120], 1, 4)]
theorem bad_parse : ∀ x ∈ badT, parseS x.1 = (0, [], x.2.1, x.2.2) := by decide +kernel
def exA : List UInt8 := [99, 32, 120, 10, 112, 32, 99, 110, 102, 32, 50, 32, 49, 10, 99, 10, 49, 10, 50, 32, 48]
theorem exA_parse : parseS exA = (2, [[1, 2]], 0, 0) := by decide +kernel
def exB : List UInt8 := [112, 32, 99, 110, 102, 32, 48, 32, 48]
theorem exB_parse : parseS exB = (0, [], 0, 0) := by decide +kernel

theorem wgo_blank (k : Nat) : wgo [] (List.replicate k 32) = [] := by
  induction k with
  | zero => rfl
  | succ k ih => rw [List.replicate_succ, wgo, if_pos (by decide), if_pos rfl, ih]
theorem long_any (l : List UInt8) (h : 65536 < l.length) : parseS l = (0, [], 0, 5) := by
  unfold parseS runS
  rw [if_pos h]
  rfl
theorem blank_any (k : Nat) (h0 : 0 < k) (h1 : k ≤ 65536) : parseS (List.replicate k 32) = (0, [], 2, 4) := by
  have hn : (10 : UInt8) ∉ List.replicate k 32 := by
    intro h
    exact absurd (List.eq_of_mem_replicate h) (by decide)
  have hlen : (List.replicate k (32 : UInt8)).length = k := List.length_replicate
  have hw : words (List.replicate k 32) = [] := wgo_blank k
  generalize List.replicate k (32 : UInt8) = l at *
  have hne : l ≠ [] := by
    rintro rfl
    rw [List.length_nil] at hlen
    omega
  have hl : lns l = [l] := by
    have := lgo_skip l [] [] hn
    rw [List.append_nil, List.nil_append] at this
    unfold lns
    rw [this, lgo, if_neg hne]
  have hc : contentS 0 [l] = [] := by
    rw [contentS, hw, if_pos (.inl rfl)]; rfl
  have hr : runS l = { start with line := 2, first := 4 } := by
    unfold runS
    rw [if_neg (by omega), hl, hc]
    rfl
  unfold parseS
  rw [hr]
  rfl
/-- Three clauses of 4096 times the same number. -/
def bigC : List Int := List.replicate 4096 524288
theorem lits_rep (x : Int) (k : Nat) : ((List.replicate k x).flatMap litT).length = k * (litT x).length := by
  induction k with
  | zero => simp
  | succ k ih => rw [List.replicate_succ, List.flatMap_cons, List.length_append, ih, Nat.succ_mul]; omega
theorem big_len : 65536 < (textT 1048576 [bigC, bigC, bigC]).length := by
  have h1 : (bigC.flatMap litT).length = 4096 * 7 := by
    unfold bigC
    rw [lits_rep, show (litT 524288).length = 7 by decide +kernel]
  have h2 : (clauseT bigC).length = 4096 * 7 + 2 := by
    unfold clauseT
    rw [List.length_append, h1]; rfl
  unfold textT
  simp only [List.flatMap_cons, List.flatMap_nil, List.length_append, h2]
  omega
theorem big_ok : ClauseOk 1048576 bigC := by
  refine ⟨by unfold bigC; rw [List.length_replicate]; omega, fun x hx => ?_⟩
  obtain rfl := List.eq_of_mem_replicate hx
  omega
end Go.Proofs.PA
