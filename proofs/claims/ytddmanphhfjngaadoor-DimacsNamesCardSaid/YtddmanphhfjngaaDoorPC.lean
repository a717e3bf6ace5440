/- Plain: the reader of a formula's text. No program. -/
import Derived.Test.YtddmanphhfjngaaDoorPB
namespace Go.Proofs.PA
open Go.Lib

structure RS where
  line : Int
  header : Bool
  vars : Int
  cls : List (List Int)
  left : Int
  cur : List Int
  first : Int

def num (w : List UInt8) : Int × Bool := numM 1048577 w
/-- A word of a clause. -/
def addS (r : RS) (w : List UInt8) : RS × Int :=
  if r.left = 0 ∨ (num w).2 = false then (r, 4)
  else if (num w).1 = 0 then ({ r with cls := r.cls ++ [r.cur], cur := [], left := r.left - 1 }, 0)
  else if r.vars < (num w).1 ∨ r.vars < -(num w).1 then (r, 3)
  else if r.cur.length = 4096 then (r, 5)
  else ({ r with cur := r.cur ++ [(num w).1] }, 0)
def wordsS (r : RS) : List (List UInt8) → RS × Int
  | [] => (r, 0)
  | w :: ws => if (addS r w).2 = 0 then wordsS (addS r w).1 ws else addS r w
/-- The words of the header. -/
def headS (ws : List (List UInt8)) : Int × Int × Int :=
  if ws.length ≠ 4 ∨ ws.getD 0 [] ≠ [112] ∨ ws.getD 1 [] ≠ [99, 110, 102] then (0, 0, 4)
  else
    let a := num (ws.getD 2 []); let b := num (ws.getD 3 [])
    if a.2 = false ∨ b.2 = false ∨ a.1 < 0 ∨ b.1 < 0 then (0, 0, 4)
    else if 1048576 < a.1 then (0, 0, 3)
    else if 1048576 < b.1 then (0, 0, 5)
    else (a.1, b.1, 0)
def beginS (r : RS) (ws : List (List UInt8)) : RS × Int :=
  if (headS ws).2.2 = 0 then ({ r with header := true, vars := (headS ws).1, left := (headS ws).2.1 }, 0) else (r, (headS ws).2.2)
def takeS (r : RS) (ws : List (List UInt8)) : RS × Int := if r.header then wordsS r ws else beginS r ws

/-- What a reader's state keeps. -/
structure Wf (r : RS) : Prop where
  v0 : 0 ≤ r.vars
  v1 : r.vars ≤ 1048576
  l0 : 0 ≤ r.left
  l1 : r.left + r.cls.length ≤ 1048576
  c1 : r.cur.length ≤ 4096
  h0 : r.header = false → r.cls = []

theorem num_bound (w : List UInt8) : -1048577 ≤ (num w).1 ∧ (num w).1 ≤ 1048577 := by
  unfold num numM
  simp only
  split
  · rename_i h
    have h2 : (trimPrefix w [45]).all digB = true := by simp only [Bool.and_eq_true] at h; exact h.2
    have := clamp_bound (M := 1048577) (x := 0) (l := trimPrefix w [45]) (by omega) (by omega) (by omega) (fun b hb => List.all_eq_true.1 h2 b hb)
    simp only
    split <;> omega
  · simp
theorem Wf.add {r : RS} (h : Wf r) (hh : r.header = true) (w : List UInt8) : Wf (addS r w).1 ∧ (addS r w).1.header = true := by
  obtain ⟨v0, v1, l0, l1, c1, h0⟩ := h
  unfold addS
  split
  · exact ⟨⟨v0, v1, l0, l1, c1, h0⟩, hh⟩
  · rename_i hn
    split
    · refine ⟨⟨v0, v1, ?_, ?_, by simp, fun h => by rw [hh] at h; cases h⟩, hh⟩
      · show 0 ≤ r.left - 1; omega
      · show r.left - 1 + ((r.cls ++ [r.cur]).length : Int) ≤ 1048576
        rw [List.length_append, List.length_singleton]; omega
    · split
      · exact ⟨⟨v0, v1, l0, l1, c1, h0⟩, hh⟩
      · split
        · exact ⟨⟨v0, v1, l0, l1, c1, h0⟩, hh⟩
        · refine ⟨⟨v0, v1, l0, l1, ?_, fun h => by rw [hh] at h; cases h⟩, hh⟩
          show (r.cur ++ [(num w).1]).length ≤ 4096
          rw [List.length_append, List.length_singleton]; omega
theorem Wf.words {r : RS} (h : Wf r) (hh : r.header = true) (ws : List (List UInt8)) : Wf (wordsS r ws).1 ∧ (wordsS r ws).1.header = true := by
  induction ws generalizing r with
  | nil => exact ⟨h, hh⟩
  | cons w ws ih =>
    unfold wordsS
    split
    · exact ih (h.add hh w).1 (h.add hh w).2
    · exact h.add hh w
theorem head_bound {ws : List (List UInt8)} (h : (headS ws).2.2 = 0) : 0 ≤ (headS ws).1 ∧ (headS ws).1 ≤ 1048576 ∧ 0 ≤ (headS ws).2.1 ∧ (headS ws).2.1 ≤ 1048576 := by
  unfold headS at *
  split at h
  · simp at h
  · rename_i h1
    rw [if_neg h1]
    simp only at h ⊢
    split at h
    · simp at h
    · rename_i h2
      rw [if_neg h2]
      split at h
      · simp at h
      · rename_i h3
        rw [if_neg h3]
        split at h
        · simp at h
        · rename_i h4
          rw [if_neg h4]
          refine ⟨?_, by simp only; omega, ?_, by simp only; omega⟩
          · simp only; by_cases hx : (num (ws.getD 2 [])).1 < 0
            · exact absurd (.inr (.inr (.inl hx))) h2
            · omega
          · simp only; by_cases hx : (num (ws.getD 3 [])).1 < 0
            · exact absurd (.inr (.inr (.inr hx))) h2
            · omega
theorem Wf.take {r : RS} (h : Wf r) (ws : List (List UInt8)) : Wf (takeS r ws).1 := by
  unfold takeS
  split
  · rename_i hh; exact (h.words hh ws).1
  · rename_i hh
    unfold beginS
    split
    · rename_i he
      obtain ⟨a1, a2, a3, a4⟩ := head_bound he
      refine ⟨a1, a2, a3, ?_, h.c1, fun h => by cases h⟩
      show (headS ws).2.1 + (r.cls.length : Int) ≤ 1048576
      rw [h.h0 (by simpa using hh)]
      simpa using a4
    · exact h

/-- The lines that are no comments: their numbers and words. -/
def contentS (n : Int) : List (List UInt8) → List (Int × List (List UInt8))
  | [] => []
  | t :: r => if words t = [] ∨ (words t).head? = some [99] then contentS (n + 1) r else (n + 1, words t) :: contentS (n + 1) r
/-- One line is read. -/
def lineS (r : RS) (x : Int × List (List UInt8)) : RS :=
  { (takeS { r with line := x.1 } x.2).1 with first := (takeS { r with line := x.1 } x.2).2 }
/-- The lines are read up to the first error. -/
def readS (r : RS) : List (Int × List (List UInt8)) → RS
  | [] => r
  | x :: xs => if (lineS r x).first = 0 then readS (lineS r x) xs else lineS r x
def start : RS := { line := 0, header := false, vars := 0, cls := [], left := 0, cur := [], first := 0 }
/-- What Parse returns: variables, clauses, line, error. -/
def endS (r : RS) (n : Int) : RS := if r.first = 0 ∧ (r.header = false ∨ 0 < r.left) then { r with line := n + 1, first := 4 } else r
def runS (l : List UInt8) : RS :=
  if 65536 < l.length then { start with first := 5 } else endS (readS start (contentS 0 (lns l))) (lns l).length
def parseS (l : List UInt8) : Int × List (List Int) × Int × Int :=
  if (runS l).first = 0 then ((runS l).vars, (runS l).cls, 0, 0) else (0, [], (runS l).line, (runS l).first)
theorem start_wf : Wf start := ⟨by decide, by decide, by decide, by decide, by decide, fun _ => rfl⟩
end Go.Proofs.PA
