/- Plain: a text without its last word, and with one more. No program. -/
import Derived.Test.YtddmanphhfjngaaDoorPF
namespace Go.Proofs.PA
open Go.Lib

theorem words_lits (c : List Int) : words (c.flatMap litT) = c.map itoa := by
  unfold words
  induction c with
  | nil => rfl
  | cons x c ih =>
    have : (x :: c).flatMap litT = itoa x ++ 32 :: (c.flatMap litT) := by simp [litT]
    rw [this, wgo_word [] (itoa x) _ 32 (itoa_sep x) (by decide) (by simpa using itoa_ne x), ih]
    rfl
theorem lits_10 (c : List Int) : (10 : UInt8) ∉ c.flatMap litT := by
  intro h
  obtain ⟨x, _, hx⟩ := List.mem_flatMap.1 h
  unfold litT at hx
  rcases List.mem_append.1 hx with hx | hx
  · exact itoa_10 x hx
  · exact absurd hx (by decide)
theorem lns_one (l : List UInt8) (h : (10 : UInt8) ∉ l) (hne : l ≠ []) : lns l = [l] := by
  have := lgo_skip l [] [] h
  rw [List.append_nil, List.nil_append] at this
  unfold lns
  rw [this]
  simp [lgo, hne]
/-- A header that promises k clauses, the clauses L, and what follows. -/
def headed (n : Int) (k : Nat) (L : List (List Int)) (r : List UInt8) : List UInt8 := headT n k ++ (L.flatMap clauseT ++ r)
theorem lns_headed (n : Int) (k : Nat) (L : List (List Int)) (r : List UInt8) : lns (headed n k L r) = headT n k :: (L.map clauseT ++ lns r) := by
  have hn : (10 : UInt8) ∉ [112, 32, 99, 110, 102, 32] ++ itoa n ++ [32] ++ itoa (k : Nat) := by
    simp only [List.mem_append, not_or]
    exact ⟨⟨⟨by decide, itoa_10 _⟩, by decide⟩, itoa_10 _⟩
  have e : headed n k L r = ([112, 32, 99, 110, 102, 32] ++ itoa n ++ [32] ++ itoa (k : Nat)) ++ 10 :: (L.flatMap clauseT ++ r) := by simp [headed, headT]
  rw [e, lns_line _ _ hn, lns_clauses]
  rfl
theorem read_headed (n : Int) (k : Nat) (L : List (List Int)) (r : List UInt8) (h0 : 0 ≤ n) (h1 : n ≤ 1048576) (hk : k ≤ 1048576) (hL : L.length ≤ k) (hc : ∀ c ∈ L, ClauseOk n c) :
    ∃ ln, readS start (contentS 0 (lns (headed n k L r))) = readS { start with line := ln, header := true, vars := n, cls := L, left := (k : Int) - L.length } (contentS (1 + L.length) (lns r)) := by
  rw [lns_headed, read_head n k h0 h1 hk]
  obtain ⟨ln, h⟩ := read_clauses L { start with line := 1, header := true, vars := n, left := k } 1 (lns r) rfl rfl (by show (L.length : Int) ≤ (k : Int); omega) h1 rfl hc
  exact ⟨ln, by rw [h]; rfl⟩
/-- THE TEXT WITHOUT ITS LAST WORD. -/
theorem parse_less (n : Int) (L : List (List Int)) (c : List Int) (h0 : 0 ≤ n) (h1 : n ≤ 1048576) (hk : L.length + 1 ≤ 1048576) (hc : ∀ d ∈ L ++ [c], ClauseOk n d) (hlen : (headed n (L.length + 1) L (c.flatMap litT)).length ≤ 65536) :
    ∃ ln : Int, parseS (headed n (L.length + 1) L (c.flatMap litT)) = (0, [], ln, 4) ∧ (L.length : Int) + 2 ≤ ln ∧ ln ≤ L.length + 3 := by
  obtain ⟨ln, hr⟩ := read_headed n (L.length + 1) L (c.flatMap litT) h0 h1 hk (by omega) (fun d hd => hc d (by simp [hd]))
  have hcc := hc c (by simp)
  have hfin : ∃ r : RS, readS start (contentS 0 (lns (headed n (L.length + 1) L (c.flatMap litT)))) = r ∧ r.first = 0 ∧ r.header = true ∧ 0 < r.left := by
    rw [hr]
    cases c with
    | nil => exact ⟨_, rfl, rfl, rfl, by show (0 : Int) < (L.length + 1 : Nat) - (L.length : Int); omega⟩
    | cons x c =>
      have hne : (x :: c).flatMap litT ≠ [] := by simp [litT]
      have hnc : ¬ ((x :: c).map itoa = [] ∨ ((x :: c).map itoa).head? = some [99]) := by
        intro h
        rcases h with h | h
        · simp at h
        · simp at h; exact itoa_c x h
      rw [lns_one _ (lits_10 _) hne, contentS, words_lits, if_neg hnc]
      have hrl := read_lits { start with line := 1 + (L.length : Int) + 1, header := true, vars := n, cls := L, left := ((L.length + 1 : Nat) : Int) - L.length } [] (x :: c) [] (by show ((L.length + 1 : Nat) : Int) - (L.length : Int) ≠ 0; omega) h1 (by simpa using hcc.1) hcc.2
      rw [List.append_nil] at hrl
      refine ⟨_, rfl, ?_⟩
      rw [readS]
      have hline : lineS { start with line := ln, header := true, vars := n, cls := L, left := ((L.length + 1 : Nat) : Int) - L.length } (1 + (L.length : Int) + 1, (x :: c).map itoa) = { start with line := 1 + (L.length : Int) + 1, header := true, vars := n, cls := L, left := ((L.length + 1 : Nat) : Int) - L.length, cur := x :: c } := by
        unfold lineS takeS
        rw [if_pos rfl]
        have hs : ({ start with line := 1 + (L.length : Int) + 1, header := true, vars := n, cls := L, left := ((L.length + 1 : Nat) : Int) - L.length, cur := [] } : RS) = { start with line := 1 + (L.length : Int) + 1, header := true, vars := n, cls := L, left := ((L.length + 1 : Nat) : Int) - L.length } := rfl
        have hrl2 := hrl
        simp only [List.nil_append] at hrl2
        show ({ (wordsS { start with line := 1 + (L.length : Int) + 1, header := true, vars := n, cls := L, left := ((L.length + 1 : Nat) : Int) - L.length } ((x :: c).map itoa)).1 with first := (wordsS { start with line := 1 + (L.length : Int) + 1, header := true, vars := n, cls := L, left := ((L.length + 1 : Nat) : Int) - L.length } ((x :: c).map itoa)).2 } : RS) = _
        rw [← hs, hrl2]
        rfl
      rw [hline]
      exact ⟨rfl, rfl, by show (0 : Int) < (L.length + 1 : Nat) - (L.length : Int); omega⟩
  obtain ⟨r, hr1, hf, hh, hl⟩ := hfin
  have hln : ((lns (headed n (L.length + 1) L (c.flatMap litT))).length : Int) = L.length + 1 + (if c = [] then 0 else 1) := by
    rw [lns_headed]
    cases c with
    | nil => simp [lns_nil]
    | cons x c =>
      rw [lns_one _ (lits_10 _) (by simp [litT])]
      simp
  have hrun : runS (headed n (L.length + 1) L (c.flatMap litT)) = { r with line := ((lns (headed n (L.length + 1) L (c.flatMap litT))).length : Int) + 1, first := 4 } := by
    unfold runS
    rw [if_neg (by omega), hr1]
    unfold endS
    rw [if_pos ⟨hf, .inr hl⟩]
  refine ⟨((lns (headed n (L.length + 1) L (c.flatMap litT))).length : Int) + 1, ?_, ?_, ?_⟩
  · unfold parseS
    rw [hrun]
    rfl
  · rw [hln]; split <;> omega
  · rw [hln]; split <;> omega
/-- THE TEXT WITH ONE WORD MORE. -/
theorem parse_more (n : Int) (L : List (List Int)) (b : UInt8) (hb : b = 48 ∨ b = 49) (h0 : 0 ≤ n) (h1 : n ≤ 1048576) (hk : L.length ≤ 1048576) (hc : ∀ d ∈ L, ClauseOk n d) (hlen : (textT n L).length + 1 ≤ 65536) :
    parseS (textT n L ++ [b]) = (0, [], (L.length : Int) + 2, 4) := by
  have e : textT n L ++ [b] = headed n L.length L [b] := by simp [textT, headed]
  have hlen2 : (headed n L.length L [b]).length ≤ 65536 := by rw [← e, List.length_append]; simpa using hlen
  obtain ⟨ln, hr⟩ := read_headed n L.length L [b] h0 h1 hk (by omega) hc
  have hl1 : lns [b] = [[b]] := by rcases hb with rfl | rfl <;> decide
  have hw : words [b] = [[b]] := by rcases hb with rfl | rfl <;> decide
  have hcs : contentS (1 + (L.length : Int)) [[b]] = [(1 + (L.length : Int) + 1, [[b]])] := by
    rw [contentS, hw, if_neg (by rcases hb with rfl | rfl <;> simp)]; rfl
  rw [hl1, hcs] at hr
  have hline : lineS { start with line := ln, header := true, vars := n, cls := L, left := (L.length : Int) - L.length } (1 + (L.length : Int) + 1, [[b]]) = { start with line := 1 + (L.length : Int) + 1, header := true, vars := n, cls := L, left := (L.length : Int) - L.length, first := 4 } := by
    unfold lineS takeS
    rw [if_pos rfl]
    have : addS { start with line := 1 + (L.length : Int) + 1, header := true, vars := n, cls := L, left := (L.length : Int) - L.length } [b] = ({ start with line := 1 + (L.length : Int) + 1, header := true, vars := n, cls := L, left := (L.length : Int) - L.length }, 4) := by
      unfold addS
      rw [if_pos (.inl (by show (L.length : Int) - L.length = 0; omega))]
    simp only [wordsS]
    rw [this, if_neg (show ¬ (4 : Int) = 0 by decide)]
  have hrun : runS (headed n L.length L [b]) = { start with line := 1 + (L.length : Int) + 1, header := true, vars := n, cls := L, left := (L.length : Int) - L.length, first := 4 } := by
    unfold runS
    rw [if_neg (by omega), hr, readS, hline, if_neg (show ¬ (4 : Int) = 0 by decide)]
    unfold endS
    rw [if_neg (by intro h; exact absurd h.1 (show ¬ (4 : Int) = 0 by decide))]
  rw [e]
  unfold parseS
  rw [hrun, if_neg (show ¬ (4 : Int) = 0 by decide)]
  congr 3
  show 1 + (L.length : Int) + 1 = L.length + 2
  omega
/-- A text of at least one clause ends in the last word's two bytes. -/
theorem text_less (n : Int) (L : List (List Int)) (c : List Int) : (textT n (L ++ [c])).take ((textT n (L ++ [c])).length - 2) = headed n (L.length + 1) L (c.flatMap litT) ∧ 3 ≤ (textT n (L ++ [c])).length := by
  have e : textT n (L ++ [c]) = headed n (L.length + 1) L (c.flatMap litT) ++ [48, 10] := by simp [textT, headed, clauseT]
  have hl : (headed n (L.length + 1) L (c.flatMap litT)).length + 2 = (textT n (L ++ [c])).length := by rw [e, List.length_append]; rfl
  refine ⟨?_, ?_⟩
  · rw [show (textT n (L ++ [c])).length - 2 = (headed n (L.length + 1) L (c.flatMap litT)).length by omega, e, List.take_left]
  · rw [← hl]
    have : 6 ≤ (headed n (L.length + 1) L (c.flatMap litT)).length := by unfold headed headT; simp
    omega
end Go.Proofs.PA
