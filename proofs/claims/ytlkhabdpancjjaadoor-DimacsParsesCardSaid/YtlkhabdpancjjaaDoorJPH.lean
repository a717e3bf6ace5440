/- Plain: what is read of a short text can be written. No program. -/
import Derived.Test.YtlkhabdpancjjaaDoorQ15
import Derived.Test.YtlkhabdpancjjaaDoorQ13
import Derived.Lib.ItoaLen
namespace Go.Proofs.PA
open Go.Lib

theorem wgo_le (cur l : List UInt8) : (wgo cur l).length ≤ l.length + (if cur = [] then 0 else 1) := by
  induction l generalizing cur with
  | nil => unfold wgo; split <;> simp
  | cons b r ih =>
    unfold wgo
    split
    · have := ih []
      rw [if_pos rfl] at this
      split <;> simp <;> omega
    · have := ih (cur ++ [b])
      rw [if_neg (by simp)] at this
      simp only [List.length_cons]; omega
theorem words_le (l : List UInt8) : (words l).length ≤ l.length := by
  have := wgo_le [] l
  rwa [if_pos rfl] at this
theorem lgo_flat (cur l : List UInt8) : (lgo cur l).flatten = cur ++ l := by
  induction l generalizing cur with
  | nil => unfold lgo; split <;> simp_all
  | cons b r ih =>
    unfold lgo
    split
    · rename_i h
      have hb : b = 10 := by simpa using h
      subst hb
      simp [ih]
    · rw [ih]; simp
/-- How many words a list of lines has. -/
def wordsN : List (Int × List (List UInt8)) → Nat
  | [] => 0
  | x :: r => x.2.length + wordsN r
theorem content_words (m : Int) (L : List (List UInt8)) : wordsN (contentS m L) ≤ L.flatten.length := by
  induction L generalizing m with
  | nil => simp [contentS, wordsN]
  | cons t r ih =>
    have h1 := ih (m + 1)
    have h2 := words_le t
    unfold contentS
    split
    · simp only [List.flatten_cons, List.length_append]; omega
    · simp only [wordsN, List.flatten_cons, List.length_append]; omega
theorem content_line (m : Int) (L : List (List UInt8)) : ∀ x ∈ contentS m L, m + 1 ≤ x.1 ∧ x.1 ≤ m + L.length := by
  induction L generalizing m with
  | nil => intro x hx; cases hx
  | cons t r ih =>
    intro x hx
    unfold contentS at hx
    simp only [List.length_cons]
    split at hx
    · have := ih (m + 1) x hx; omega
    · rcases List.mem_cons.1 hx with rfl | hx
      · simp only; omega
      · have := ih (m + 1) x hx; omega

/-- What a reader's state keeps, and how much it has read. -/
def sizeS (r : RS) : Nat := (r.cls.map fun c => c.length + 1).sum + r.cur.length
structure Inv (r : RS) : Prop where
  wf : Wf r
  h0 : r.header = false → r.cls = [] ∧ r.cur = []
  ok : ∀ c ∈ r.cls, ClauseOk r.vars c
  cur : ClauseOk r.vars r.cur
theorem Inv.add {r : RS} (h : Inv r) (hh : r.header = true) (w : List UInt8) : Inv (addS r w).1 ∧ (addS r w).1.header = true ∧ sizeS (addS r w).1 ≤ sizeS r + 1 := by
  have hw := h.wf.add hh w
  refine ⟨⟨hw.1, fun h => (by rw [hw.2] at h; cases h), ?_, ?_⟩, hw.2, ?_⟩
  · unfold addS
    split
    · exact h.ok
    · split
      · intro c hc
        rcases List.mem_append.1 hc with hc | hc
        · exact h.ok c hc
        · obtain rfl := List.mem_singleton.1 hc
          exact h.cur
      · split
        · exact h.ok
        · split <;> exact h.ok
  · unfold addS
    split
    · exact h.cur
    · split
      · exact ⟨by simp, fun x hx => by cases hx⟩
      · rename_i hx0
        split
        · exact h.cur
        · rename_i hx1
          split
          · exact h.cur
          · rename_i hx2
            have hl := h.cur.1
            refine ⟨by show (r.cur ++ [(num w).1]).length ≤ 4096; simp only [List.length_append, List.length_singleton]; omega, fun x hx => ?_⟩
            rcases List.mem_append.1 hx with hx | hx
            · exact h.cur.2 x hx
            · obtain rfl := List.mem_singleton.1 hx
              exact ⟨hx0, by show -r.vars ≤ _; omega, by show _ ≤ r.vars; omega⟩
  · unfold addS
    split
    · exact Nat.le_succ _
    · split
      · simp [sizeS]; omega
      · split
        · exact Nat.le_succ _
        · split
          · exact Nat.le_succ _
          · simp [sizeS]; omega
theorem Inv.words {r : RS} (h : Inv r) (hh : r.header = true) (ws : List (List UInt8)) : Inv (wordsS r ws).1 ∧ sizeS (wordsS r ws).1 ≤ sizeS r + ws.length := by
  induction ws generalizing r with
  | nil => exact ⟨h, Nat.le_refl _⟩
  | cons w ws ih =>
    have ha := h.add hh w
    unfold wordsS
    simp only [List.length_cons]
    split
    · have := ih ha.1 ha.2.1
      exact ⟨this.1, by omega⟩
    · exact ⟨ha.1, by omega⟩
theorem Inv.take {r : RS} (h : Inv r) (ws : List (List UInt8)) : Inv (takeS r ws).1 ∧ sizeS (takeS r ws).1 ≤ sizeS r + ws.length := by
  have hw := h.wf.take ws
  unfold takeS at hw ⊢
  split
  · rename_i hh; exact h.words hh ws
  · rename_i hh
    rw [if_neg hh] at hw
    have h0 := h.h0 (by simpa using hh)
    unfold beginS at hw ⊢
    split
    · rename_i he
      rw [if_pos he] at hw
      refine ⟨⟨hw, fun h => (by cases h), ?_, ?_⟩, ?_⟩
      · intro c hc
        have : c ∈ r.cls := hc
        rw [h0.1] at this; cases this
      · have e : ({ r with header := true, vars := (headS ws).1, left := (headS ws).2.1 } : RS).cur = [] := h0.2
        rw [e]
        exact ⟨by simp, fun x hx => by cases hx⟩
      · show sizeS r ≤ _; omega
    · exact ⟨h, by show sizeS r ≤ _; omega⟩
theorem Inv.line {r : RS} (h : Inv r) (x : Int × List (List UInt8)) : Inv (lineS r x) ∧ sizeS (lineS r x) ≤ sizeS r + x.2.length := by
  have h1 : Inv { r with line := x.1 } := ⟨⟨h.wf.v0, h.wf.v1, h.wf.l0, h.wf.l1, h.wf.c1, h.wf.h0⟩, h.h0, h.ok, h.cur⟩
  have h2 := h1.take x.2
  exact ⟨⟨⟨h2.1.wf.v0, h2.1.wf.v1, h2.1.wf.l0, h2.1.wf.l1, h2.1.wf.c1, h2.1.wf.h0⟩, h2.1.h0, h2.1.ok, h2.1.cur⟩, h2.2⟩
theorem add_line (r : RS) (w : List UInt8) : (addS r w).1.line = r.line := by
  unfold addS
  split
  · rfl
  · split
    · rfl
    · split
      · rfl
      · split <;> rfl
theorem words_line (r : RS) (ws : List (List UInt8)) : (wordsS r ws).1.line = r.line := by
  induction ws generalizing r with
  | nil => rfl
  | cons w ws ih =>
    unfold wordsS
    split
    · rw [ih, add_line]
    · rw [add_line]
theorem take_line (r : RS) (ws : List (List UInt8)) : (takeS r ws).1.line = r.line := by
  unfold takeS
  split
  · exact words_line r ws
  · unfold beginS; split <;> rfl
theorem Inv.read {r : RS} (h : Inv r) (xs : List (Int × List (List UInt8))) (M : Int) (hx : ∀ x ∈ xs, 1 ≤ x.1 ∧ x.1 ≤ M) (hf : r.first = 0) :
    Inv (readS r xs) ∧ sizeS (readS r xs) ≤ sizeS r + wordsN xs ∧ ((readS r xs).first ≠ 0 → 1 ≤ (readS r xs).line ∧ (readS r xs).line ≤ M) := by
  induction xs generalizing r with
  | nil => exact ⟨h, Nat.le_refl _, fun hn => absurd hf hn⟩
  | cons x xs ih =>
    have hl := h.line x
    unfold readS
    simp only [wordsN]
    split
    · rename_i h0
      have := ih hl.1 (fun y hy => hx y (by simp [hy])) h0
      exact ⟨this.1, by omega, this.2.2⟩
    · refine ⟨hl.1, by omega, fun _ => ?_⟩
      have e : (lineS r x).line = x.1 := by unfold lineS; exact take_line _ _
      rw [e]
      exact hx x (by simp)
theorem start_inv : Inv start := ⟨start_wf, fun _ => ⟨rfl, rfl⟩, fun c hc => (by cases hc), ⟨by decide, fun x hx => (by cases hx)⟩⟩

theorem lns_count (l : List UInt8) : (lns l).length ≤ l.count 10 + 1 := by
  have := lgo_len [] l
  unfold lns
  rw [this]; split <;> omega
theorem flat_size (L : List (List Int)) (h : ∀ c ∈ L, ∀ x ∈ c, (itoa x).length ≤ 21) : (L.flatMap clauseT).length ≤ 22 * (L.map fun c => c.length + 1).sum := by
  induction L with
  | nil => simp
  | cons c L ih =>
    have h1 := lits_len c c.length (Nat.le_refl _) (h c (by simp))
    rw [List.take_length] at h1
    have h2 := ih (fun d hd => h d (by simp [hd]))
    have e : (clauseT c).length = (c.flatMap litT).length + 2 := by unfold clauseT; rw [List.length_append]; rfl
    simp only [List.flatMap_cons, List.length_append, List.map_cons, List.sum_cons, e]
    omega
/-- WHAT IS READ OF A SHORT TEXT. -/
theorem parse_short (l : List UInt8) (hl : l.length ≤ 2000) :
    (∃ n L, parseS l = (n, L, 0, 0) ∧ 0 ≤ n ∧ n ≤ 1048576 ∧ L.length ≤ 1048576 ∧ (∀ c ∈ L, ClauseOk n c) ∧ (textT n L).length ≤ 65536) ∨
    (∃ ln e, parseS l = (0, [], ln, e) ∧ e ≠ 0 ∧ 1 ≤ ln ∧ ln ≤ l.count 10 + 2) := by
  have hc := lns_count l
  obtain ⟨hi, hs, hln⟩ := start_inv.read (contentS 0 (lns l)) (l.count 10 + 1 : Nat) (fun x hx => by have := content_line 0 (lns l) x hx; omega) rfl
  have hw := content_words 0 (lns l)
  have hfl : (lns l).flatten = l := lgo_flat [] l
  rw [hfl] at hw
  have hs0 : sizeS start = 0 := rfl
  have hrun : runS l = endS (readS start (contentS 0 (lns l))) (lns l).length := by
    unfold runS; rw [if_neg (by omega)]
  generalize readS start (contentS 0 (lns l)) = r at *
  by_cases hf : r.first = 0
  · by_cases hb : r.header = false ∨ 0 < r.left
    · right
      refine ⟨((lns l).length : Int) + 1, 4, ?_, by decide, by omega, by omega⟩
      have : runS l = { r with line := ((lns l).length : Int) + 1, first := 4 } := by rw [hrun]; unfold endS; rw [if_pos ⟨hf, hb⟩]
      unfold parseS
      rw [this]; rfl
    · left
      have : runS l = r := by rw [hrun]; unfold endS; rw [if_neg (fun h => hb h.2)]
      refine ⟨r.vars, r.cls, by unfold parseS; rw [this, if_pos hf], hi.wf.v0, hi.wf.v1, by have := hi.wf.l1; have := hi.wf.l0; omega, hi.ok, ?_⟩
      have hcl : r.cls.length ≤ 1048576 := by have := hi.wf.l1; have := hi.wf.l0; omega
      have hv := hi.wf.v1; have hv0 := hi.wf.v0
      have h2 := flat_size r.cls (fun c hc x hx => by have := (hi.ok c hc).2 x hx; exact itoa_length_le x (by omega) (by omega))
      have h3 := itoa_length_le r.vars (by omega) (by omega)
      have h4 := itoa_length_le (r.cls.length : Int) (by omega) (by omega)
      have hs1 : (r.cls.map fun c => c.length + 1).sum ≤ sizeS r := Nat.le_add_right _ _
      unfold textT headT
      simp only [List.length_append, List.length_cons, List.length_nil]
      omega
  · right
    have : runS l = r := by rw [hrun]; unfold endS; rw [if_neg (fun h => hf h.1)]
    have h5 := hln hf
    refine ⟨r.line, r.first, ?_, hf, h5.1, by omega⟩
    unfold parseS
    rw [this, if_neg hf]
end Go.Proofs.PA
