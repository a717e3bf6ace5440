/- Several texts, joined. -/
import Derived.Test.YtlkhabdpancjjaaDoorQ05

/- Plain: the reference's reading of a text comes to the same. No program. -/
section
namespace Go.Proofs.PA
open Go.Lib

theorem clamp_min {M1 M2 : Int} (hM : M1 ≤ M2) (h0 : 0 ≤ M1) {l : List UInt8} (hl : ∀ b ∈ l, digB b = true) {x1 x2 : Int} (hx : x1 = min x2 M1) (hx2 : 0 ≤ x2) : clampF M1 x1 l = min (clampF M2 x2 l) M1 := by
  induction l generalizing x1 x2 with
  | nil => exact hx
  | cons b l ih =>
    have hb := (digB_iff b).1 (hl b (by simp))
    exact ih (fun c hc => hl c (by simp [hc])) (x1 := min (10 * x1 + ((b.toNat : Int) - 48)) M1) (x2 := min (10 * x2 + ((b.toNat : Int) - 48)) M2) (by omega) (by omega)
/-- A number under a greater limit. -/
theorem num_rel (w : List UInt8) : (numM 1099511627776 w).2 = (num w).2 ∧ (num w).1 = max (-1048577) (min (numM 1099511627776 w).1 1048577) := by
  unfold num numM
  simp only
  split
  · rename_i h
    have h2 : (trimPrefix w [45]).all digB = true := by simp only [Bool.and_eq_true] at h; exact h.2
    have hd : ∀ b ∈ trimPrefix w [45], digB b = true := fun b hb => List.all_eq_true.1 h2 b hb
    have h3 := clamp_min (M1 := 1048577) (M2 := 1099511627776) (by omega) (by omega) hd (x1 := 0) (x2 := 0) (by omega) (by omega)
    have h4 := clamp_bound (M := 1099511627776) (x := 0) (by omega) (by omega) (by omega) hd
    refine ⟨rfl, ?_⟩
    simp only
    split <;> omega
  · exact ⟨rfl, by omega⟩

def numR (w : List UInt8) : Int × Bool := numM 1099511627776 w
/-- The reference's header. -/
def headR (ws : List (List UInt8)) : Int × Int × Int :=
  if ws.length ≠ 4 ∨ ws.getD 0 [] ≠ [112] ∨ ws.getD 1 [] ≠ [99, 110, 102] then (0, 0, 4)
  else if (numR (ws.getD 2 [])).2 = false ∨ (numR (ws.getD 3 [])).2 = false ∨ (numR (ws.getD 2 [])).1 < 0 ∨ (numR (ws.getD 3 [])).1 < 0 then (0, 0, 4)
  else if 1048576 < (numR (ws.getD 2 [])).1 then (0, 0, 3)
  else if 1048576 < (numR (ws.getD 3 [])).1 then (0, 0, 5)
  else ((numR (ws.getD 2 [])).1, (numR (ws.getD 3 [])).1, 0)
theorem headR_eq (ws : List (List UInt8)) : headR ws = headS ws := by
  have h2 := num_rel (ws.getD 2 [])
  have h3 := num_rel (ws.getD 3 [])
  unfold headR headS numR
  simp only
  generalize numM 1099511627776 (ws.getD 2 []) = a2 at *
  generalize numM 1099511627776 (ws.getD 3 []) = a3 at *
  generalize num (ws.getD 2 []) = b2 at *
  generalize num (ws.getD 3 []) = b3 at *
  obtain ⟨a2, a2'⟩ := a2
  obtain ⟨a3, a3'⟩ := a3
  obtain ⟨b2, b2'⟩ := b2
  obtain ⟨b3, b3'⟩ := b3
  simp only at h2 h3 ⊢
  obtain ⟨e2, h2⟩ := h2
  obtain ⟨e3, h3⟩ := h3
  subst e2
  subst e3
  by_cases g : ws.length ≠ 4 ∨ ws.getD 0 [] ≠ [112] ∨ ws.getD 1 [] ≠ [99, 110, 102]
  · rw [if_pos g, if_pos g]
  rw [if_neg g, if_neg g]
  have i1 : b2 < 0 ↔ a2 < 0 := by omega
  have i2 : b3 < 0 ↔ a3 < 0 := by omega
  have i3 : 1048576 < b2 ↔ 1048576 < a2 := by omega
  have i4 : 1048576 < b3 ↔ 1048576 < a3 := by omega
  simp only [i1, i2, i3, i4]
  by_cases g1 : a2' = false ∨ a3' = false ∨ a2 < 0 ∨ a3 < 0
  · rw [if_pos g1, if_pos g1]
  rw [if_neg g1, if_neg g1]
  simp only [not_or] at g1
  obtain ⟨_, _, g3, g4⟩ := g1
  by_cases g2 : 1048576 < a2
  · rw [if_pos g2, if_pos g2]
  rw [if_neg g2, if_neg g2]
  by_cases g5 : 1048576 < a3
  · rw [if_pos g5, if_pos g5]
  rw [if_neg g5, if_neg g5, show b2 = a2 by omega, show b3 = a3 by omega]
/-- The reference's word of a clause: it looks for the range first. -/
def addR (r : RS) (w : List UInt8) : RS × Int :=
  if r.left = 0 ∨ (numR w).2 = false then (r, 4)
  else if r.vars < (numR w).1 ∨ (numR w).1 < -r.vars then (r, 3)
  else if (numR w).1 = 0 then ({ r with cls := r.cls ++ [r.cur], cur := [], left := r.left - 1 }, 0)
  else if r.cur.length = 4096 then (r, 5)
  else ({ r with cur := r.cur ++ [(numR w).1] }, 0)
theorem addR_eq {r : RS} (h : Wf r) (w : List UInt8) : addR r w = addS r w := by
  have h2 := num_rel w
  obtain ⟨v0, v1, _, _, _, _⟩ := h
  unfold addR addS numR
  generalize numM 1099511627776 w = a at *
  generalize num w = b at *
  obtain ⟨a, a'⟩ := a
  obtain ⟨b, b'⟩ := b
  simp only at h2 ⊢
  obtain ⟨e, h2⟩ := h2
  subst e
  by_cases g : r.left = 0 ∨ a' = false
  · rw [if_pos g, if_pos g]
  rw [if_neg g, if_neg g]
  by_cases g1 : r.vars < a ∨ a < -r.vars
  · rw [if_pos g1, if_neg (show ¬ b = 0 by omega), if_pos (by omega)]
  rw [if_neg g1]
  have e : b = a := by omega
  subst e
  by_cases g2 : b = 0
  · rw [if_pos g2, if_pos g2]
  rw [if_neg g2, if_neg g2, if_neg (show ¬ (r.vars < b ∨ r.vars < -b) by omega)]

/-- The reference's lines: the words of each, byte for byte. -/
def pushW (line : List (List UInt8)) (word : List UInt8) : List (List UInt8) := if word = [] then line else line ++ [word]
def goL : List UInt8 → List UInt8 → List (List UInt8) → Bool → List (List (List UInt8))
  | [], word, line, b => if b then [] else [pushW line word]
  | c :: r, word, line, _ => if sepB c then (if c = 10 then pushW line word :: goL r [] [] true else goL r [] (pushW line word) false) else goL r (word ++ [c]) line false
theorem goL_eq {l cur word : List UInt8} {line : List (List UInt8)} {b : Bool} (hw : ∀ t, wgo [] (cur ++ t) = line ++ wgo word t) (hb : b = decide (cur = [])) : goL l word line b = (lgo cur l).map words := by
  have hpush : ∀ t, line ++ wgo word [] = pushW line word ∧ (∀ c, sepB c = true → line ++ wgo word (c :: t) = pushW line word ++ wgo [] t) := by
    intro t
    unfold pushW
    by_cases e : word = []
    · subst e
      exact ⟨by simp [wgo], fun c hc => by simp [wgo, hc]⟩
    · exact ⟨by simp [wgo, e], fun c hc => by simp [wgo, hc, e]⟩
  induction l generalizing cur word line b with
  | nil =>
    unfold goL lgo
    by_cases e : cur = []
    · rw [if_pos (by rw [hb]; simp [e]), if_pos e]; rfl
    · rw [if_neg (by rw [hb]; simp [e]), if_neg e]
      have := hw []
      rw [List.append_nil, (hpush []).1] at this
      simp [words, this]
  | cons c r ih =>
    have hpn : ∀ t, ([] : List (List UInt8)) ++ wgo [] [] = pushW [] [] ∧ (∀ c, sepB c = true → ([] : List (List UInt8)) ++ wgo [] (c :: t) = pushW [] [] ++ wgo [] t) := fun t => ⟨rfl, fun c hc => by simp [wgo, hc, pushW]⟩
    unfold goL lgo
    by_cases hs : sepB c = true
    · rw [if_pos hs]
      by_cases h10 : c = 10
      · subst h10
        rw [if_pos rfl, if_pos (show ((10 : UInt8) == 10) = true from rfl), ih (cur := []) (by simp) (by simp) hpn]
        have h1 := hw [10]
        rw [(hpush []).2 10 hs] at h1
        simp [words, h1, wgo]
      · rw [if_neg h10, if_neg (show ¬ (c == 10) = true by simpa using h10)]
        refine ih (fun t => ?_) (by simp) (fun t => ⟨by simp [wgo, pushW], fun d hd => by simp [wgo, hd, pushW]⟩)
        have h1 := hw (c :: t)
        rw [(hpush t).2 c hs] at h1
        simpa using h1
    · rw [if_neg hs, if_neg (show ¬ (c == 10) = true from fun e => hs (by rw [show c = 10 by simpa using e]; rfl))]
      refine ih (fun t => ?_) (by simp) (fun t => ?_)
      · have h1 := hw (c :: t)
        simp only [wgo, if_neg hs] at h1
        simpa using h1
      · have hne : word ++ [c] ≠ [] := by simp
        unfold pushW
        exact ⟨by simp [wgo], fun d hd => by simp [wgo, hd]⟩
theorem goL_lns (l : List UInt8) : goL l [] [] true = (lns l).map words := goL_eq (fun _ => rfl) rfl
/-- The lines are read one behind the other, those without content left out, up to the first error. -/
def readR (r : RS) (n : Int) : List (List (List UInt8)) → RS
  | [] => r
  | ws :: rest => if ws = [] ∨ ws.head? = some [99] then readR r (n + 1) rest else if (lineS r (n + 1, ws)).first = 0 then readR (lineS r (n + 1, ws)) (n + 1) rest else lineS r (n + 1, ws)
theorem readR_eq (L : List (List UInt8)) : ∀ (r : RS) (n : Int), readR r n (L.map words) = readS r (contentS n L) := by
  induction L with
  | nil => intro r n; rfl
  | cons t L ih =>
    intro r n
    rw [List.map_cons]
    unfold readR contentS
    by_cases h : words t = [] ∨ (words t).head? = some [99]
    · rw [if_pos h, if_pos h]; exact ih r (n + 1)
    · rw [if_neg h, if_neg h]
      unfold readS
      by_cases h0 : (lineS r (n + 1, words t)).first = 0
      · rw [if_pos h0, if_pos h0]; exact ih _ _
      · rw [if_neg h0, if_neg h0]
/-- What the reference's Parse comes to. -/
theorem runR_eq (l : List UInt8) : runS l = if 65536 < l.length then { start with first := 5 } else endS (readR start 0 (goL l [] [] true)) (goL l [] [] true).length := by
  unfold runS
  rw [goL_lns, readR_eq, List.length_map]
end Go.Proofs.PA
end

/- Plain: separators and comments make no difference to what is read. No program. -/
section
namespace Go.Proofs.PA
open Go.Lib

/-- The words of the lines with content, in one row. -/
def flatL (L : List (List (List UInt8))) : List (List UInt8) := (L.filter fun ws => !(decide (ws = []) || ws.head? == some [99])).flatten
theorem flat_cons_keep {ws : List (List UInt8)} {L : List (List (List UInt8))} (h1 : ws ≠ []) (h2 : ws.head? ≠ some [99]) : flatL (ws :: L) = ws ++ flatL L := by
  unfold flatL
  rw [List.filter_cons, if_pos (by simp [h1, h2]), List.flatten_cons]
theorem flat_cons_drop {ws : List (List UInt8)} {L : List (List (List UInt8))} (h : ws = [] ∨ ws.head? = some [99]) : flatL (ws :: L) = flatL L := by
  unfold flatL
  rw [List.filter_cons, if_neg (by rcases h with h | h <;> simp [h])]
/-- The separators of the law. -/
def oddS : Nat → List UInt8
  | 0 => [32]
  | 1 => [9]
  | 2 => [32, 32]
  | 3 => [10]
  | 4 => [32, 10, 9]
  | 5 => [10, 99, 10]
  | _ => [10, 99, 32, 49, 32, 48, 32, 112, 32, 99, 110, 102, 10, 10]
/-- A word of a number: no separator, not empty, no comment. -/
def WordOk (w : List UInt8) : Prop := w ≠ [] ∧ w ≠ [99] ∧ ∀ b ∈ w, sepB b = false
theorem goL_word {w : List UInt8} (h : ∀ b ∈ w, sepB b = false) : ∀ (r word : List UInt8) (line : List (List UInt8)) (b : Bool), w ≠ [] → goL (w ++ r) word line b = goL r (word ++ w) line false := by
  induction w with
  | nil => intro r word line b h0; exact absurd rfl h0
  | cons c w ih =>
    intro r word line b _
    have hc := h c (by simp)
    rw [List.cons_append]
    conv => lhs; unfold goL
    rw [if_neg (by simp [hc])]
    by_cases hw : w = []
    · subst hw; simp
    · rw [ih (fun b hb => h b (by simp [hb])) r (word ++ [c]) line false hw]
      simp
theorem body_stream (toks : List (List UInt8 × Nat)) (hw : ∀ t ∈ toks, WordOk t.1) : ∀ (line : List (List UInt8)) (b : Bool), (line = [] ∨ line.head? ≠ some [99]) → (b = true → line = []) →
    flatL (goL ((toks.map fun t => t.1 ++ oddS t.2).flatten) [] line b) = line ++ toks.map (·.1) := by
  induction toks with
  | nil =>
    intro line b hl hb
    show flatL (goL [] [] line b) = _
    unfold goL
    cases b with
    | true => rw [hb rfl]; rfl
    | false =>
      rw [if_neg (by simp)]
      show flatL [line] = _
      rcases hl with h | h
      · rw [flat_cons_drop (.inl h), h]; rfl
      · by_cases e : line = []
        · rw [flat_cons_drop (.inl e), e]; rfl
        · rw [flat_cons_keep e h]; rfl
  | cons t toks ih =>
    intro line b hl hb
    obtain ⟨w, k⟩ := t
    obtain ⟨h1, h2, h3⟩ := hw (w, k) (by simp)
    have ih := ih fun t ht => hw t (by simp [ht])
    rw [List.map_cons, List.flatten_cons, List.append_assoc, goL_word h3 _ _ _ _ h1, List.nil_append]
    generalize ((toks.map fun t => t.1 ++ oddS t.2).flatten) = R at *
    have hne : line ++ [w] ≠ [] := by simp
    have hhd : (line ++ [w]).head? ≠ some [99] := by
      cases line with
      | nil => simpa using h2
      | cons a r =>
        rcases hl with h | h
        · cases h
        · simpa using h
    have hp : pushW line w = line ++ [w] := by unfold pushW; rw [if_neg h1]
    have hq : ∀ l, pushW l [] = l := fun l => by unfold pushW; rw [if_pos rfl]
    have e1 : ∀ (r : List UInt8) word l b, goL (32 :: r) word l b = goL r [] (pushW l word) false := fun r word l b => by conv => lhs; unfold goL; rw [if_pos (show sepB 32 = true from rfl), if_neg (by decide)]
    have e2 : ∀ (r : List UInt8) word l b, goL (9 :: r) word l b = goL r [] (pushW l word) false := fun r word l b => by conv => lhs; unfold goL; rw [if_pos (show sepB 9 = true from rfl), if_neg (by decide)]
    have e3 : ∀ (r : List UInt8) word l b, goL (10 :: r) word l b = pushW l word :: goL r [] [] true := fun r word l b => by conv => lhs; unfold goL; rw [if_pos (show sepB 10 = true from rfl), if_pos rfl]
    have e4 : ∀ (c : UInt8) (r : List UInt8) word l b, sepB c = false → goL (c :: r) word l b = goL r (word ++ [c]) l false := fun c r word l b h => by conv => lhs; unfold goL; rw [if_neg (by simp [h])]
    have fin1 : flatL (goL R [] (line ++ [w]) false) = line ++ (w :: toks.map (·.1)) := by rw [ih (line ++ [w]) false (.inr hhd) (by simp)]; simp
    have fin2 : ∀ b, line ++ [w] ++ flatL (goL R [] [] b) = line ++ (w :: toks.map (·.1)) := fun b => by rw [ih [] b (.inl rfl) (fun _ => rfl)]; simp
    rw [List.map_cons]
    show flatL (goL (oddS k ++ R) w line false) = line ++ (w :: toks.map (·.1))
    match k with
    | 0 => show flatL (goL (32 :: R) w line false) = _; rw [e1, hp]; exact fin1
    | 1 => show flatL (goL (9 :: R) w line false) = _; rw [e2, hp]; exact fin1
    | 2 => show flatL (goL (32 :: 32 :: R) w line false) = _; rw [e1, e1, hp, hq]; exact fin1
    | 3 => show flatL (goL (10 :: R) w line false) = _; rw [e3, hp, flat_cons_keep hne hhd]; exact fin2 _
    | 4 => show flatL (goL (32 :: 10 :: 9 :: R) w line false) = _; rw [e1, e3, e2, hp, hq, hq, flat_cons_keep hne hhd]; exact fin2 _
    | 5 => show flatL (goL (10 :: 99 :: 10 :: R) w line false) = _; rw [e3, e4 99 _ _ _ _ rfl, e3, hp, flat_cons_keep hne hhd, flat_cons_drop (.inr rfl)]; exact fin2 _
    | k + 6 =>
      show flatL (goL (10 :: 99 :: 32 :: 49 :: 32 :: 48 :: 32 :: 112 :: 32 :: 99 :: 110 :: 102 :: 10 :: 10 :: R) w line false) = _
      rw [e3, e4 99 _ _ _ _ rfl, e1, e4 49 _ _ _ _ rfl, e1, e4 48 _ _ _ _ rfl, e1, e4 112 _ _ _ _ rfl, e1, e4 99 _ _ _ _ rfl, e4 110 _ _ _ _ rfl, e4 102 _ _ _ _ rfl, e3, e3, hp, flat_cons_keep hne hhd, flat_cons_drop (.inr rfl), hq, flat_cons_drop (.inl rfl)]
      exact fin2 _
end Go.Proofs.PA
end

/- Plain: where lines end makes no difference behind the header. No program. -/
section
namespace Go.Proofs.PA
open Go.Lib

theorem addS_with (r : RS) (k f : Int) (w : List UInt8) : addS { r with line := k, first := f } w = ({ (addS r w).1 with line := k, first := f }, (addS r w).2) := by
  unfold addS
  by_cases h1 : r.left = 0 ∨ (num w).2 = false
  · rw [if_pos h1, if_pos h1]
  rw [if_neg h1, if_neg h1]
  by_cases h2 : (num w).1 = 0
  · rw [if_pos h2, if_pos h2]
  rw [if_neg h2, if_neg h2]
  by_cases h3 : r.vars < (num w).1 ∨ r.vars < -(num w).1
  · rw [if_pos h3, if_pos h3]
  rw [if_neg h3, if_neg h3]
  by_cases h4 : r.cur.length = 4096
  · rw [if_pos h4, if_pos h4]
  rw [if_neg h4, if_neg h4]
theorem addS_header (r : RS) (w : List UInt8) : (addS r w).1.header = r.header := by
  unfold addS
  by_cases h1 : r.left = 0 ∨ (num w).2 = false
  · rw [if_pos h1]
  rw [if_neg h1]
  by_cases h2 : (num w).1 = 0
  · rw [if_pos h2]
  rw [if_neg h2]
  by_cases h3 : r.vars < (num w).1 ∨ r.vars < -(num w).1
  · rw [if_pos h3]
  rw [if_neg h3]
  by_cases h4 : r.cur.length = 4096
  · rw [if_pos h4]
  rw [if_neg h4]
theorem wordsS_with (k f : Int) (ws : List (List UInt8)) : ∀ r : RS, wordsS { r with line := k, first := f } ws = ({ (wordsS r ws).1 with line := k, first := f }, (wordsS r ws).2) := by
  induction ws with
  | nil => intro r; rfl
  | cons w ws ih =>
    intro r
    unfold wordsS
    rw [addS_with]
    by_cases h : (addS r w).2 = 0
    · rw [if_pos h, if_pos h]; exact ih _
    · rw [if_neg h, if_neg h]
theorem wordsS_header (ws : List (List UInt8)) : ∀ r : RS, (wordsS r ws).1.header = r.header := by
  induction ws with
  | nil => intro r; rfl
  | cons w ws ih =>
    intro r
    unfold wordsS
    by_cases h : (addS r w).2 = 0
    · rw [if_pos h, ih, addS_header]
    · rw [if_neg h, addS_header]
theorem wordsS_append (a b : List (List UInt8)) : ∀ r : RS, wordsS r (a ++ b) = if (wordsS r a).2 = 0 then wordsS (wordsS r a).1 b else wordsS r a := by
  induction a with
  | nil => intro r; show wordsS r b = if (0 : Int) = 0 then _ else _; rw [if_pos rfl]; rfl
  | cons w a ih =>
    intro r
    rw [List.cons_append]
    conv => lhs; unfold wordsS
    by_cases h : (addS r w).2 = 0
    · rw [if_pos h, ih]
      have e : wordsS r (w :: a) = wordsS (addS r w).1 a := by conv => lhs; unfold wordsS; rw [if_pos h]
      rw [e]
    · rw [if_neg h]
      have e : wordsS r (w :: a) = addS r w := by conv => lhs; unfold wordsS; rw [if_neg h]
      rw [e, if_neg h]
theorem wordsS_front {a b : List (List UInt8)} {r : RS} (h : (wordsS r (a ++ b)).2 = 0) : (wordsS r a).2 = 0 := by
  rw [wordsS_append] at h
  by_cases h1 : (wordsS r a).2 = 0
  · exact h1
  · rw [if_neg h1] at h; exact h
/-- Behind the header only the row of words counts. -/
theorem readR_flat (L : List (List (List UInt8))) : ∀ (r : RS) (n : Int), r.header = true → r.first = 0 → (wordsS r (flatL L)).2 = 0 → ∃ k, readR r n L = { (wordsS r (flatL L)).1 with line := k, first := 0 } := by
  induction L with
  | nil =>
    intro r n _ hf _
    refine ⟨r.line, ?_⟩
    show r = { r with line := r.line, first := 0 }
    rw [← hf]
  | cons ws L ih =>
    intro r n hh hf h0
    unfold readR
    by_cases h : ws = [] ∨ ws.head? = some [99]
    · rw [if_pos h, flat_cons_drop h] at *
      exact ih r (n + 1) hh hf h0
    · rw [if_neg h]
      simp only [not_or] at h
      rw [flat_cons_keep h.1 h.2] at h0 ⊢
      have h1 := wordsS_front h0
      have e1 : lineS r (n + 1, ws) = { (wordsS r ws).1 with line := n + 1, first := 0 } := by
        have et : takeS { r with line := n + 1 } ws = wordsS { r with line := n + 1, first := r.first } ws := by
          unfold takeS
          rw [if_pos (show ({ r with line := n + 1 } : RS).header = true from hh)]
        unfold lineS
        show ({ (takeS { r with line := n + 1 } ws).1 with first := (takeS { r with line := n + 1 } ws).2 } : RS) = _
        rw [et, wordsS_with, h1]
      rw [e1]
      rw [if_pos rfl]
      have h2 : wordsS r (ws ++ flatL L) = wordsS (wordsS r ws).1 (flatL L) := by rw [wordsS_append, if_pos h1]
      rw [h2] at h0 ⊢
      have e4 := wordsS_with (n + 1) 0 (flatL L) (wordsS r ws).1
      obtain ⟨k, hk⟩ := ih { (wordsS r ws).1 with line := n + 1, first := 0 } (n + 1) (by show (wordsS r ws).1.header = true; rw [wordsS_header, hh]) rfl (by rw [e4]; exact h0)
      exact ⟨k, by rw [hk, e4]⟩
end Go.Proofs.PA
end
