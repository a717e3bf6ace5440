/- Several texts, joined. -/
import Derived.Test.YtlkhabdpancjjaaDoorQ16
import Derived.Test.YtlkhabdpancjjaaDoorQ15

/- Plain: a formula's text with other separators, and with lines before it, is read as before. No program. -/
section
namespace Go.Proofs.PA
open Go.Lib

theorem pushW_nil (l : List (List UInt8)) : pushW l [] = l := by unfold pushW; rw [if_pos rfl]
theorem goL_sp (r word : List UInt8) (l : List (List UInt8)) (b : Bool) : goL (32 :: r) word l b = goL r [] (pushW l word) false := by conv => lhs; unfold goL; rw [if_pos (show sepB 32 = true from rfl), if_neg (by decide)]
theorem goL_nl (r word : List UInt8) (l : List (List UInt8)) (b : Bool) : goL (10 :: r) word l b = pushW l word :: goL r [] [] true := by conv => lhs; unfold goL; rw [if_pos (show sepB 10 = true from rfl), if_pos rfl]
theorem goL_ch (c : UInt8) (r word : List UInt8) (l : List (List UInt8)) (b : Bool) (h : sepB c = false) : goL (c :: r) word l b = goL r (word ++ [c]) l false := by conv => lhs; unfold goL; rw [if_neg (by simp [h])]
/-- What may stand before a text. -/
def preS : Nat → List UInt8
  | 0 => []
  | 1 => [99, 10]
  | 2 => [10, 10]
  | _ => [32, 10, 99, 32, 53, 32, 53, 32, 53, 10]
theorem readR_drop {ws : List (List UInt8)} (h : ws = [] ∨ ws.head? = some [99]) (r : RS) (n : Int) (L : List (List (List UInt8))) : readR r n (ws :: L) = readR r (n + 1) L := by
  conv => lhs; unfold readR; rw [if_pos h]
theorem pre_read (p : Nat) (X : List UInt8) : ∃ (D : List (List (List UInt8))) (m : Int), goL (preS p ++ X) [] [] true = D ++ goL X [] [] true ∧ ∀ r n L, readR r n (D ++ L) = readR r (n + m) L := by
  match p with
  | 0 => exact ⟨[], 0, rfl, fun r n L => by simp⟩
  | 1 =>
    refine ⟨[[[99]]], 1, ?_, fun r n L => readR_drop (.inr rfl) r n L⟩
    show goL (99 :: 10 :: X) [] [] true = _
    rw [goL_ch 99 _ _ _ _ rfl, goL_nl]
    rfl
  | 2 =>
    refine ⟨[[], []], 2, ?_, fun r n L => ?_⟩
    · show goL (10 :: 10 :: X) [] [] true = _
      rw [goL_nl, goL_nl]
      rfl
    · show readR r n ([] :: [] :: L) = _
      rw [readR_drop (.inl rfl), readR_drop (.inl rfl)]
      congr 1; omega
  | p + 3 =>
    refine ⟨[[], [[99], [53], [53], [53]]], 2, ?_, fun r n L => ?_⟩
    · show goL (32 :: 10 :: 99 :: 32 :: 53 :: 32 :: 53 :: 32 :: 53 :: 10 :: X) [] [] true = _
      rw [goL_sp, goL_nl, goL_ch 99 _ _ _ _ rfl, goL_sp, goL_ch 53 _ _ _ _ rfl, goL_sp, goL_ch 53 _ _ _ _ rfl, goL_sp, goL_ch 53 _ _ _ _ rfl, goL_nl]
      rfl
    · show readR r n ([] :: [[99], [53], [53], [53]] :: L) = _
      rw [readR_drop (.inl rfl), readR_drop (.inr rfl)]
      congr 1; omega
/-- The words of clauses. -/
def wordsL (L : List (List Int)) : List (List UInt8) := L.flatMap fun c => c.map itoa ++ [[48]]
theorem words_clauses (L : List (List Int)) : ∀ r : RS, r.cur = [] → (L.length : Int) ≤ r.left → r.vars ≤ 1048576 → (∀ c ∈ L, ClauseOk r.vars c) → wordsS r (wordsL L) = ({ r with cls := r.cls ++ L, cur := [], left := r.left - L.length }, 0) := by
  induction L with
  | nil =>
    intro r hcur _ _ _
    cases r
    simp at hcur
    subst hcur
    simp [wordsL, wordsS]
  | cons c L ih =>
    intro r hcur hl hv hc
    simp only [List.length_cons] at hl
    have h1 := read_clause r c hcur (by omega) hv (hc c (by simp))
    show wordsS r ((c.map itoa ++ [[48]]) ++ wordsL L) = _
    have h2 := ih { r with cls := r.cls ++ [c], cur := [], left := r.left - 1 } rfl (by show (L.length : Int) ≤ r.left - 1; omega) hv (fun d hd => hc d (by simp [hd]))
    rw [wordsS_append, h1, if_pos rfl]
    refine h2.trans ?_
    have e1 : r.left - 1 - (L.length : Int) = r.left - ((c :: L).length : Int) := by simp only [List.length_cons]; omega
    have e2 : r.cls ++ [c] ++ L = r.cls ++ c :: L := by simp
    simp only [e1, e2]
theorem wordsL_ok {L : List (List Int)} {w : List UInt8} (h : w ∈ wordsL L) : WordOk w := by
  unfold wordsL at h
  rw [List.mem_flatMap] at h
  obtain ⟨c, _, h⟩ := h
  rcases List.mem_append.1 h with h | h
  · rw [List.mem_map] at h
    obtain ⟨x, _, rfl⟩ := h
    exact ⟨itoa_ne x, itoa_c x, itoa_sep x⟩
  · simp at h
    subst h
    exact ⟨by simp, by decide, by decide⟩
theorem head_line (m n : Int) (k : Nat) (h0 : 0 ≤ n) (h1 : n ≤ 1048576) (hk : k ≤ 1048576) : lineS start (m, [[112], [99, 110, 102], itoa n, itoa (k : Nat)]) = { start with line := m, header := true, vars := n, left := k } := by
  have hhd : headS [[112], [99, 110, 102], itoa n, itoa (k : Nat)] = (n, (k : Int), 0) := by
    unfold headS
    rw [if_neg (by simp)]
    have e2 : [[112], [99, 110, 102], itoa n, itoa (k : Nat)].getD 2 [] = itoa n := rfl
    have e3 : [[112], [99, 110, 102], itoa n, itoa (k : Nat)].getD 3 [] = itoa (k : Nat) := rfl
    rw [e2, e3, num_itoa n (by omega) (by omega), num_itoa (k : Nat) (by omega) (by omega)]
    simp only
    rw [if_neg (by simp; omega), if_neg (by omega), if_neg (by omega)]
  unfold lineS takeS
  rw [if_neg (by simp [start])]
  unfold beginS
  rw [hhd, if_pos rfl]
  rfl
theorem goL_head (n : Int) (k : Nat) (X : List UInt8) : goL (headT n k ++ X) [] [] true = [[112], [99, 110, 102], itoa n, itoa (k : Nat)] :: goL X [] [] true := by
  have hn : (10 : UInt8) ∉ [112, 32, 99, 110, 102, 32] ++ itoa n ++ [32] ++ itoa (k : Nat) := by
    simp only [List.mem_append, not_or]
    exact ⟨⟨⟨by decide, itoa_10 _⟩, by decide⟩, itoa_10 _⟩
  have e : headT n k ++ X = ([112, 32, 99, 110, 102, 32] ++ itoa n ++ [32] ++ itoa (k : Nat)) ++ 10 :: X := by simp [headT]
  rw [goL_lns, goL_lns, e, lns_line _ _ hn, List.map_cons, ← words_head n k]
  rfl
/-- SEPARATORS, COMMENTS AND ENDS OF LINES MAKE NO DIFFERENCE. -/
theorem parse_blank (n : Int) (L : List (List Int)) (h0 : 0 ≤ n) (h1 : n ≤ 1048576) (hL : L.length ≤ 1048576) (hc : ∀ c ∈ L, ClauseOk n c) (p : Nat) (toks : List (List UInt8 × Nat)) (ht : toks.map (·.1) = wordsL L)
    (hlen : (preS p ++ (headT n L.length ++ (toks.map fun t => t.1 ++ oddS t.2).flatten)).length ≤ 65536) : parseS (preS p ++ (headT n L.length ++ (toks.map fun t => t.1 ++ oddS t.2).flatten)) = (n, L, 0, 0) := by
  obtain ⟨D, m, hD, hR⟩ := pre_read p (headT n L.length ++ (toks.map fun t => t.1 ++ oddS t.2).flatten)
  have hwok : ∀ t ∈ toks, WordOk t.1 := fun t h => wordsL_ok (L := L) (by rw [← ht]; exact List.mem_map_of_mem h)
  have hfl := body_stream toks hwok [] true (.inl rfl) (fun _ => rfl)
  rw [List.nil_append, ht] at hfl
  have hws := words_clauses L { start with line := 0 + m + 1, header := true, vars := n, left := L.length } rfl (Int.le_refl _) h1 hc
  obtain ⟨k, hk⟩ := readR_flat (goL ((toks.map fun t => t.1 ++ oddS t.2).flatten) [] [] true) { start with line := 0 + m + 1, header := true, vars := n, left := L.length } (0 + m + 1) rfl rfl (by rw [hfl, hws])
  rw [hfl, hws] at hk
  have hr : readR start 0 (goL (preS p ++ (headT n L.length ++ (toks.map fun t => t.1 ++ oddS t.2).flatten)) [] [] true) = { start with line := k, header := true, vars := n, cls := L, left := 0 } := by
    rw [hD, hR, goL_head]
    conv => lhs; unfold readR
    rw [if_neg (by simp), head_line _ n L.length h0 h1 hL]
    show (if (0 : Int) = 0 then _ else _) = _
    rw [if_pos rfl]
    refine hk.trans ?_
    simp [start]
  have hrun : runS (preS p ++ (headT n L.length ++ (toks.map fun t => t.1 ++ oddS t.2).flatten)) = { start with line := k, header := true, vars := n, cls := L, left := 0 } := by
    rw [runR_eq, if_neg (by omega), hr]
    simp [endS, start]
  unfold parseS
  rw [hrun]
  rfl
end Go.Proofs.PA
end

/- Plain: what the law's loop makes of a formula's text. No program. -/
section
namespace Go.Proofs.PA
open Go.Lib

/-- Each separator is replaced: the one of number i by the ks i-th kind. -/
def blankGo (ks : Nat → Nat) : Nat → List UInt8 → List UInt8
  | _, [] => []
  | i, c :: r => if c = 32 ∨ c = 10 then oddS (ks i) ++ blankGo ks (i + 1) r else c :: blankGo ks i r
def toksOf (ks : Nat → Nat) : Nat → List (List UInt8) → List (List UInt8 × Nat)
  | _, [] => []
  | i, w :: ws => (w, ks i) :: toksOf ks (i + 1) ws
def toksT (t : List (List UInt8 × Nat)) : List UInt8 := (t.map fun t => t.1 ++ oddS t.2).flatten
theorem toks_fst (ks : Nat → Nat) (ws : List (List UInt8)) : ∀ i, (toksOf ks i ws).map (·.1) = ws := by
  induction ws with
  | nil => intro i; rfl
  | cons w ws ih => intro i; show w :: (toksOf ks (i + 1) ws).map (·.1) = _; rw [ih]
theorem toks_append (ks : Nat → Nat) (a b : List (List UInt8)) : ∀ i, toksOf ks i (a ++ b) = toksOf ks i a ++ toksOf ks (i + a.length) b := by
  induction a with
  | nil => intro i; rfl
  | cons w a ih =>
    intro i
    show (w, ks i) :: toksOf ks (i + 1) (a ++ b) = _
    rw [ih (i + 1), show i + 1 + a.length = i + (w :: a).length by simp only [List.length_cons]; omega]
    rfl
theorem toksT_append (a b : List (List UInt8 × Nat)) : toksT (a ++ b) = toksT a ++ toksT b := by simp [toksT]
theorem blank_word (ks : Nat → Nat) (w : List UInt8) (hw : ∀ b ∈ w, sepB b = false) (s : UInt8) (hs : s = 32 ∨ s = 10) (r : List UInt8) : ∀ i, blankGo ks i (w ++ s :: r) = w ++ oddS (ks i) ++ blankGo ks (i + 1) r := by
  induction w with
  | nil =>
    intro i
    show (if s = 32 ∨ s = 10 then oddS (ks i) ++ blankGo ks (i + 1) r else s :: blankGo ks i r) = _
    rw [if_pos hs]; simp
  | cons c w ih =>
    intro i
    have hc := hw c (by simp)
    have hn : ¬ (c = 32 ∨ c = 10) := by rintro (h | h) <;> (subst h; exact absurd hc (by decide))
    show (if c = 32 ∨ c = 10 then oddS (ks i) ++ blankGo ks (i + 1) (w ++ s :: r) else c :: blankGo ks i (w ++ s :: r)) = _
    rw [if_neg hn, ih (fun b hb => hw b (by simp [hb]))]
    simp
theorem blank_lits (ks : Nat → Nat) (c : List Int) (r : List UInt8) : ∀ i, blankGo ks i (c.flatMap litT ++ r) = toksT (toksOf ks i (c.map itoa)) ++ blankGo ks (i + c.length) r := by
  induction c with
  | nil => intro i; rfl
  | cons x c ih =>
    intro i
    have e : (x :: c).flatMap litT ++ r = itoa x ++ 32 :: (c.flatMap litT ++ r) := by simp [litT]
    rw [e, blank_word ks _ (itoa_sep x) 32 (.inl rfl), ih (i + 1), show i + 1 + c.length = i + (x :: c).length by simp only [List.length_cons]; omega]
    show _ = toksT ((itoa x, ks i) :: toksOf ks (i + 1) (c.map itoa)) ++ _
    simp [toksT]
theorem blank_clauses (ks : Nat → Nat) (L : List (List Int)) : ∀ i, blankGo ks i (L.flatMap clauseT) = toksT (toksOf ks i (wordsL L)) := by
  induction L with
  | nil => intro i; rfl
  | cons c L ih =>
    intro i
    have e : (c :: L).flatMap clauseT = c.flatMap litT ++ ([48] ++ 10 :: L.flatMap clauseT) := by simp [clauseT]
    rw [e, blank_lits, blank_word ks [48] (by decide) 10 (.inr rfl), ih]
    show _ = toksT (toksOf ks i ((c.map itoa ++ [[48]]) ++ wordsL L))
    rw [toks_append, toks_append, toksT_append, toksT_append]
    simp [toksT, toksOf, Nat.add_assoc]
/-- WHAT THE LAW'S TEXT IS READ AS. -/
theorem parse_made (n : Int) (L : List (List Int)) (h0 : 0 ≤ n) (h1 : n ≤ 1048576) (hL : L.length ≤ 1048576) (hc : ∀ c ∈ L, ClauseOk n c) (p : Nat) (ks : Nat → Nat) (hlen : (preS p ++ (headT n L.length ++ blankGo ks 0 (L.flatMap clauseT))).length ≤ 65536) :
    parseS (preS p ++ (headT n L.length ++ blankGo ks 0 (L.flatMap clauseT))) = (n, L, 0, 0) := by
  rw [blank_clauses] at hlen ⊢
  exact parse_blank n L h0 h1 hL hc p _ (toks_fst ks _ 0) hlen
end Go.Proofs.PA
end

/- Plain: what DimacsBlank's loop makes, byte by byte. No program. -/
section
namespace Go.Proofs.PA
open Go.Lib

/-- One round: what is out, whether the header is read, how many separators were replaced. -/
def stB (ks : Nat → Nat) (s : List UInt8 × Bool × Nat) (c : UInt8) : List UInt8 × Bool × Nat :=
  if s.2.1 = true then (if c = 10 then (s.1 ++ [10], false, s.2.2) else (s.1 ++ [c], true, s.2.2))
  else if c = 32 ∨ c = 10 then (s.1 ++ oddS (ks s.2.2), false, s.2.2 + 1) else (s.1 ++ [c], false, s.2.2)
def foldB (ks : Nat → Nat) (S : List UInt8) (k : Nat) : List UInt8 × Bool × Nat := (S.take k).foldl (stB ks) ([], true, 0)
theorem foldB_zero (ks : Nat → Nat) (S : List UInt8) : foldB ks S 0 = ([], true, 0) := rfl
theorem foldB_succ {ks : Nat → Nat} {S : List UInt8} {k : Nat} (h : k < S.length) : foldB ks S (k + 1) = stB ks (foldB ks S k) (S.getD k 0) := by
  unfold foldB
  rw [take_snoc h, List.foldl_append]
  rfl
theorem odd_len (k : Nat) : (oddS k).length ≤ 14 := by
  unfold oddS
  split <;> simp
theorem foldB_bound (ks : Nat → Nat) (S : List UInt8) : ∀ k, k ≤ S.length → (foldB ks S k).1.length ≤ 14 * k ∧ (foldB ks S k).2.2 ≤ k
  | 0, _ => by simp [foldB_zero]
  | k + 1, h => by
    obtain ⟨h1, h2⟩ := foldB_bound ks S k (by omega)
    rw [foldB_succ (show k < S.length by omega)]
    generalize foldB ks S k = s at *
    generalize S.getD k 0 = c
    have h3 := odd_len (ks s.2.2)
    unfold stB
    split
    · split <;> (simp; omega)
    · split <;> (simp; omega)
theorem stB_sep {ks : Nat → Nat} {o : List UInt8} {i : Nat} {c : UInt8} (h : c = 32 ∨ c = 10) : stB ks (o, false, i) c = (o ++ oddS (ks i), false, i + 1) := by
  unfold stB; rw [if_neg (by simp), if_pos h]
theorem stB_ch {ks : Nat → Nat} {o : List UInt8} {i : Nat} {c : UInt8} (h : ¬ (c = 32 ∨ c = 10)) : stB ks (o, false, i) c = (o ++ [c], false, i) := by
  unfold stB; rw [if_neg (by simp), if_neg h]
theorem stB_head {ks : Nat → Nat} {o : List UInt8} {i : Nat} {c : UInt8} (h : c ≠ 10) : stB ks (o, true, i) c = (o ++ [c], true, i) := by
  unfold stB; rw [if_pos rfl, if_neg h]
theorem stB_nl {ks : Nat → Nat} {o : List UInt8} {i : Nat} : stB ks (o, true, i) 10 = (o ++ [10], false, i) := by
  unfold stB; rw [if_pos rfl, if_pos rfl]
theorem fold_body (ks : Nat → Nat) (B : List UInt8) : ∀ (o : List UInt8) (i : Nat), (B.foldl (stB ks) (o, false, i)).1 = o ++ blankGo ks i B := by
  induction B with
  | nil => intro o i; simp [blankGo]
  | cons c r ih =>
    intro o i
    rw [List.foldl_cons]
    by_cases h : c = 32 ∨ c = 10
    · rw [stB_sep h, ih]
      conv => rhs; unfold blankGo
      rw [if_pos h]; simp
    · rw [stB_ch h, ih]
      conv => rhs; unfold blankGo
      rw [if_neg h]; simp
theorem fold_head (ks : Nat → Nat) (H : List UInt8) (hH : ∀ b ∈ H, b ≠ 10) : ∀ (o : List UInt8), H.foldl (stB ks) (o, true, 0) = (o ++ H, true, 0) := by
  induction H with
  | nil => intro o; simp
  | cons c r ih =>
    intro o
    rw [List.foldl_cons]
    rw [stB_head (hH c (by simp)), ih (fun b hb => hH b (by simp [hb]))]
    simp
theorem foldB_all {ks : Nat → Nat} {H B : List UInt8} (hH : ∀ b ∈ H, b ≠ 10) : (foldB ks (H ++ [10] ++ B) (H ++ [10] ++ B).length).1 = H ++ [10] ++ blankGo ks 0 B := by
  unfold foldB
  rw [List.take_length, List.foldl_append, List.foldl_append, fold_head ks H hH]
  show (B.foldl (stB ks) (stB ks ([] ++ H, true, 0) 10)).1 = _
  rw [stB_nl, fold_body]
  simp
end Go.Proofs.PA
end
