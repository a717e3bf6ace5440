/- Contract of lit.Norm. -/
import Derived.Test.YtfhodbnhaaiceaaDoorJH
namespace Go.Proofs.YtfhodbnhaaiceaaDoor
open Go.RowKit
namespace L
open K

/-- The loop of Norm: what has been kept, what is to come. -/
def normGo (acc : List Int) : List Int → Option (List Int)
  | [] => some acc
  | x :: r => if x = 0 then normGo acc r else
    if acc = [] then normGo (acc ++ [x]) r else
    if acc.getD (acc.length - 1) 0 = x then normGo acc r else
    if av (acc.getD (acc.length - 1) 0) = av x then none else normGo (acc ++ [x]) r
/-- What Norm returns: none if the clause always holds. -/
def normR (c : List Int) : Option (List Int) := normGo [] (sortI c)

theorem drop_getD {s : List Int} {k : Nat} (h : k < s.length) : s.drop k = s.getD k 0 :: s.drop (k + 1) := by
  rw [List.drop_eq_getElem_cons h]; simp [List.getD, h]
theorem normGo_zero {acc s : List Int} {k : Nat} (h : k < s.length) (h0 : s.getD k 0 = 0) : normGo acc (s.drop k) = normGo acc (s.drop (k + 1)) := by
  rw [drop_getD h, normGo, if_pos h0]
theorem normGo_first {acc s : List Int} {k : Nat} (h : k < s.length) (h0 : s.getD k 0 ≠ 0) (ha : acc.length = 0) : normGo acc (s.drop k) = normGo (acc ++ [s.getD k 0]) (s.drop (k + 1)) := by
  have : acc = [] := List.length_eq_zero_iff.1 ha
  rw [drop_getD h, normGo, if_neg h0, if_pos this]
theorem normGo_same {acc s : List Int} {k : Nat} (h : k < s.length) (h0 : s.getD k 0 ≠ 0) (ha : 0 < acc.length) (he : acc.getD (acc.length - 1) 0 = s.getD k 0) : normGo acc (s.drop k) = normGo acc (s.drop (k + 1)) := by
  have : acc ≠ [] := fun h => by simp [h] at ha
  rw [drop_getD h, normGo, if_neg h0, if_neg this, if_pos he]
theorem normGo_fail {acc s : List Int} {k : Nat} (h : k < s.length) (h0 : s.getD k 0 ≠ 0) (ha : 0 < acc.length) (he : acc.getD (acc.length - 1) 0 ≠ s.getD k 0) (hv : av (acc.getD (acc.length - 1) 0) = av (s.getD k 0)) : normGo acc (s.drop k) = none := by
  have : acc ≠ [] := fun h => by simp [h] at ha
  rw [drop_getD h, normGo, if_neg h0, if_neg this, if_neg he, if_pos hv]
theorem normGo_push {acc s : List Int} {k : Nat} (h : k < s.length) (h0 : s.getD k 0 ≠ 0) (ha : 0 < acc.length) (hv : av (acc.getD (acc.length - 1) 0) ≠ av (s.getD k 0)) : normGo acc (s.drop k) = normGo (acc ++ [s.getD k 0]) (s.drop (k + 1)) := by
  have : acc ≠ [] := fun h => by simp [h] at ha
  have he : acc.getD (acc.length - 1) 0 ≠ s.getD k 0 := fun h => hv (by rw [h])
  rw [drop_getD h, normGo, if_neg h0, if_neg this, if_neg he, if_neg hv]

/-- What the row holds in a round: the kept ones in front, the sorted list from k on. -/
def Row (s : List Int) (k : Nat) (acc xs : List Int) : Prop := xs.length = s.length ∧ acc.length ≤ k ∧ (∀ j, j < acc.length → xs.getD j 0 = acc.getD j 0) ∧ (∀ j, k ≤ j → xs.getD j 0 = s.getD j 0)

theorem Row.skip {s acc xs : List Int} {k : Nat} (h : Row s k acc xs) : Row s (k + 1) acc xs := ⟨h.1, by have := h.2.1; omega, h.2.2.1, fun j hj => h.2.2.2 j (by omega)⟩
theorem getD_set_same {xs : List Int} {j : Nat} {x : Int} (h : j < xs.length) : (xs.set j x).getD j 0 = x := by simp [List.getD, h]
theorem getD_set_other {xs : List Int} {i j : Nat} {x : Int} (h : i ≠ j) : (xs.set i x).getD j 0 = xs.getD j 0 := by simp [List.getD, h]
theorem getD_snoc_same {xs : List Int} {x : Int} : (xs ++ [x]).getD xs.length 0 = x := by simp [List.getD]
theorem getD_snoc_other {xs : List Int} {j : Nat} {x : Int} (h : j < xs.length) : (xs ++ [x]).getD j 0 = xs.getD j 0 := by simp [List.getD, List.getElem?_append_left h]
theorem Row.push {s acc xs : List Int} {k : Nat} {x : Int} (h : Row s k acc xs) (hk : k < s.length) : Row s (k + 1) (acc ++ [x]) (xs.set acc.length x) := by
  obtain ⟨h1, h2, h3, h4⟩ := h
  refine ⟨by simpa using h1, by simp; omega, fun j hj => ?_, fun j hj => ?_⟩
  · by_cases hj2 : j = acc.length
    · subst hj2; rw [getD_set_same (by omega), getD_snoc_same]
    · have : j < acc.length := by simp at hj; omega
      rw [getD_set_other (by omega), getD_snoc_other this, h3 j this]
  · rw [getD_set_other (by omega), h4 j (by omega)]

theorem cell_of {w : World} {B g n cap : Nat} {xs : List Int} (h : w.ownsRow B 3 1 (.slice (some ⟨g, 0, none⟩) n cap) n (xs.map (Value.int .i64))) {j : Nat} (hj : j < xs.length) : w.cell? ⟨g, j, none⟩ = some (.int .i64 (xs.getD j 0)) := by
  have hl := h.1
  rw [h.cellAt j (by simp at hl; omega)]
  simp [List.getD, hj]

theorem mem_sortI {l : List Int} {x : Int} (h : x ∈ sortI l) : x ∈ l := (List.mergeSort_perm l _).subset h
theorem len_sortI (l : List Int) : (sortI l).length = l.length := by simp [sortI]

/-- Behind the store of a kept literal. -/
theorem push_own {w wr : World} {B g n cap k : Nat} {s acc xs : List Int} {x : Int} (hrow : Row s k acc xs) (hk : k < s.length) (hB : B ≤ g)
    (hown : wr.ownsRow B 3 1 (.slice (some ⟨g, 0, none⟩) n cap) n (xs.map (Value.int .i64))) (hb : Below B w wr) :
    Row s (k + 1) (acc ++ [x]) (xs.set acc.length x) ∧ (wr.setCell ⟨g, acc.length, none⟩ (.int .i64 x)).ownsRow B 3 1 (.slice (some ⟨g, 0, none⟩) n cap) n ((xs.set acc.length x).map (Value.int .i64)) ∧ Below B w (wr.setCell ⟨g, acc.length, none⟩ (.int .i64 x)) := by
  refine ⟨hrow.push hk, ?_, hb.setCell hB _⟩
  have := (hown.stored acc.length (.int .i64 x)).1
  rwa [← List.map_set] at this

/-- A slice whose block holds ints. -/
def TypedI (w : World) (u : Value) : Prop := ∀ k, u.ownBlock = some k → ∃ cur, w.heap[k]? = some (.cells cur 3 (0, 0))
theorem TypedI.none (w : World) : TypedI w (.slice Option.none 0 0) := fun k hk => by simp [Value.ownBlock] at hk
theorem TypedI.of_owns {w : World} {B g n cap n' cap' : Nat} {xs : List Value} (h : w.ownsRow B 3 1 (.slice (some ⟨g, 0, Option.none⟩) n cap) n xs) : TypedI w (.slice (some ⟨g, 0, Option.none⟩) n' cap') := by
  intro k hk
  simp only [Value.ownBlock, Option.some.injEq] at hk
  subst hk
  rcases h.2 with ⟨h', _⟩ | ⟨g', cap'', cur, h', _, hg, _⟩
  · simp at h'
  · simp only [Value.slice.injEq, Option.some.injEq, Addr.mk.injEq, and_true, true_and] at h'
    obtain ⟨rfl, rfl⟩ := h'
    exact ⟨cur, hg⟩

end L
end Go.Proofs.YtfhodbnhaaiceaaDoor
