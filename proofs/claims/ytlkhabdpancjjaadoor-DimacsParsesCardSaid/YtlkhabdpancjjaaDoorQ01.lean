/- Several texts, joined. -/
import Derived.WalkKit
import Derived.Handy
import Derived.Lib.Hide
import Derived.WalkSpells
import Derived.WalkLawsBesides
import Derived.BigQuiet
import Derived.Deep.QuietTactic
import Derived.WalkSmall
import Derived.Lib.FieldsP
import Derived.Lib.Bytealg
import Derived.Lib.ItoaNum
import Derived.Lib.Strings

/- Readings of slices in memory, and how they stay. -/
section
namespace Go.Proofs.YtlkhabdpancjjaaDoor
open Go.RowKit
namespace K

theorem ret_int {k : IntKind} {a b : Int} (h : a = b) : Ending.returned (.int k a) = .returned (.int k b) := by rw [h]
theorem ret_bool {a b : Bool} (h : a = b) : Ending.returned (.bool a) = .returned (.bool b) := by rw [h]

/-- A slice value that reads as a list of ints. -/
def Ints (w : World) (v : Value) (l : List Int) : Prop :=
  ∃ p cap, v = .slice p l.length cap ∧ l.length ≤ cap ∧ l.length * 8 ≤ 140737488351232 ∧ (0 < l.length → ∃ b off, p = some ⟨b, off, none⟩ ∧ ∀ j, j < l.length → w.cell? ⟨b, off + j, none⟩ = some (.int .i64 (l.getD j 0)))

theorem Ints.below {w w' : World} {v : Value} {l : List Int} (h : Ints w v l) (hb : Below w.heap.size w w') : Ints w' v l := by
  obtain ⟨p, cap, hv, hl, hm, hc⟩ := h
  refine ⟨p, cap, hv, hl, hm, fun h0 => ?_⟩
  obtain ⟨b, off, hp, hc⟩ := hc h0
  exact ⟨b, off, hp, fun j hj => (hb.cell (p := ⟨b, off + j, none⟩) (World.block_lt_of_cell? _ _ (hc j hj))).trans (hc j hj)⟩

/-- A slice value that reads as a list of bools. -/
def Bools (w : World) (v : Value) (l : List Bool) : Prop :=
  ∃ p cap, v = .slice p l.length cap ∧ l.length ≤ cap ∧ l.length ≤ 140737488351232 ∧ (0 < l.length → ∃ b off, p = some ⟨b, off, none⟩ ∧ ∀ j, j < l.length → w.cell? ⟨b, off + j, none⟩ = some (.bool (l.getD j false)))

theorem Bools.below {w w' : World} {v : Value} {l : List Bool} (h : Bools w v l) (hb : Below w.heap.size w w') : Bools w' v l := by
  obtain ⟨p, cap, hv, hl, hm, hc⟩ := h
  refine ⟨p, cap, hv, hl, hm, fun h0 => ?_⟩
  obtain ⟨b, off, hp, hc⟩ := hc h0
  exact ⟨b, off, hp, fun j hj => (hb.cell (p := ⟨b, off + j, none⟩) (World.block_lt_of_cell? _ _ (hc j hj))).trans (hc j hj)⟩
end K
end Go.Proofs.YtlkhabdpancjjaaDoor
end

/- Plain: the words of a line, the lines of a text, numbers of words. No program. -/
section
namespace Go.Proofs.PA
open Go.Lib

/-- What separates words. -/
def sepB (b : UInt8) : Bool := b == 32 || b == 9 || b == 10
/-- The same of a character. -/
def sepR (r : Nat) : Bool := r == 32 || r == 9 || r == 10

/-- The words, behind what has been read of the first one. -/
def wgo (cur : List UInt8) : List UInt8 → List (List UInt8)
  | [] => if cur = [] then [] else [cur]
  | b :: r => if sepB b then (if cur = [] then wgo [] r else cur :: wgo [] r) else wgo (cur ++ [b]) r
def words (l : List UInt8) : List (List UInt8) := wgo [] l

theorem sepR_low (b : UInt8) (_h : b.toNat < 128) : sepR b.toNat = sepB b := by
  unfold sepR sepB
  have e : ∀ c : UInt8, (b.toNat == c.toNat) = (b == c) := fun c => by
    rw [Bool.eq_iff_iff]; simp [UInt8.toNat_inj]
  have e1 := e 32; have e2 := e 9; have e3 := e 10
  simp only [UInt8.reduceToNat] at e1 e2 e3
  rw [e1, e2, e3]
theorem sepB_high (b : UInt8) (h : 128 ≤ b.toNat) : sepB b = false := by
  unfold sepB
  have e : ∀ c : UInt8, c.toNat < 128 → (b == c) = false := fun c hc => by
    rw [beq_eq_false_iff_ne]; rintro rfl; omega
  rw [e 32 (by decide), e 9 (by decide), e 10 (by decide)]; rfl
theorem sepR_high (r : Nat) (h : 128 ≤ r) : sepR r = false := by
  unfold sepR
  have e : ∀ c : Nat, c < 128 → (r == c) = false := fun c hc => by rw [beq_eq_false_iff_ne]; omega
  rw [e 32 (by decide), e 9 (by decide), e 10 (by decide)]; rfl

theorem decodeN_high (n b0 b1 b2 b3 : Nat) (h : 128 ≤ b0) : 128 ≤ (decodeN n b0 b1 b2 b3).1 := by
  unfold decodeN
  repeat' split
  all_goals (simp only; omega)
theorem decodeN_low (n b0 b1 b2 b3 : Nat) (h : b0 < 128) : decodeN n b0 b1 b2 b3 = (b0, 1) := by unfold decodeN; rw [if_pos h]
theorem decodeN_tail (n b0 b1 b2 b3 : Nat) (hn : 1 ≤ n) :
    (2 ≤ (decodeN n b0 b1 b2 b3).2 → 128 ≤ b1) ∧ (3 ≤ (decodeN n b0 b1 b2 b3).2 → 128 ≤ b2) ∧ (4 ≤ (decodeN n b0 b1 b2 b3).2 → 128 ≤ b3) ∧ (decodeN n b0 b1 b2 b3).2 ≤ 4 ∧ (decodeN n b0 b1 b2 b3).2 ≤ n := by
  unfold decodeN
  repeat' split
  all_goals (simp only; omega)

theorem wgo_skip : ∀ (k : Nat) (cur l : List UInt8), k ≤ l.length → (∀ j, j < k → sepB (l.getD j 0) = false) → wgo cur l = wgo (cur ++ l.take k) (l.drop k)
  | 0, cur, l, _, _ => by simp
  | k + 1, cur, [], h, _ => by simp at h
  | k + 1, cur, b :: t, h, hz => by
    have h0 := hz 0 (by omega)
    simp only [List.getD_cons_zero] at h0
    simp only [wgo, h0, Bool.false_eq_true, if_false]
    rw [wgo_skip k (cur ++ [b]) t (by simp at h; omega) (fun j hj => by have := hz (j + 1) (by omega); simpa using this)]
    simp
theorem drop_cons (l : List UInt8) (k : Nat) (h : k < l.length) : l.drop k = l.getD k 0 :: l.drop (k + 1) := by
  rw [List.getD_eq_getElem?_getD, List.getElem?_eq_getElem h, Option.getD_some]; exact List.drop_eq_getElem_cons h

theorem fields_spans (s : ByteArray) : ∀ (f pos : Nat) (st : Option Nat) (acc : List (Nat × Nat)), s.size ≤ pos + f → pos ≤ s.size → (∀ a, st = some a → a < pos) →
    acc.map (fun p => pieceU s.data.toList p.1 p.2) ++ wgo (openPiece s.data.toList st pos) (s.data.toList.drop pos) = (closeSpans s (spansFromP sepR s f pos st acc)).map (fun p => pieceU s.data.toList p.1 p.2)
  | 0, pos, st, acc, h, hp, hst => by
    obtain rfl : pos = s.size := by omega
    have hd : s.data.toList.drop s.size = [] := List.drop_eq_nil_of_le (by rw [← size_eq]; exact Nat.le_refl _)
    rw [hd]
    cases st with
    | none => simp [spansFromP, closeSpans, openPiece, wgo]
    | some a =>
      have := pieceU_ne s.data.toList a s.size (hst a rfl) (by rw [← size_eq]; exact Nat.le_refl _)
      simp [spansFromP, closeSpans, openPiece, wgo, this]
  | f + 1, pos, st, acc, h, hp, hst => by
    by_cases hlt : pos < s.size
    · have hlt' : pos < s.data.toList.length := by rw [← size_eq]; exact hlt
      simp only [spansFromP, if_pos hlt]
      by_cases hb : (s.data.toList.getD pos 0).toNat < 128
      · have hdec : Utf8.decode s pos = ((s.data.toList.getD pos 0).toNat, 1) := by rw [decode_N]; exact decodeN_low _ _ _ _ _ hb
        rw [hdec]
        simp only [sepR_low _ hb]
        rw [drop_cons _ _ hlt']
        cases hsp : sepB (s.data.toList.getD pos 0) with
        | true =>
          simp only [wgo, hsp, if_true]
          cases st with
          | none =>
            have ih := fields_spans s f (pos + 1) none acc (by omega) (by omega) (fun a h => by cases h)
            simpa [openPiece] using ih
          | some a =>
            have hpn := pieceU_ne s.data.toList a pos (hst a rfl) (by omega)
            have ih := fields_spans s f (pos + 1) none (acc ++ [(a, pos)]) (by omega) (by omega) (fun a h => by cases h)
            simpa [openPiece, hpn] using ih
        | false =>
          simp only [wgo, hsp, Bool.false_eq_true, if_false]
          have e1 : (s.data.toList.drop pos).take 1 = [s.data.toList.getD pos 0] := by rw [drop_cons _ _ hlt']; rfl
          cases st with
          | none =>
            have ih := fields_spans s f (pos + 1) (some pos) acc (by omega) (by omega) (fun a h => by cases h; omega)
            have e : ([] : List UInt8) ++ [s.data.toList.getD pos 0] = pieceU s.data.toList pos (pos + 1) := by
              unfold pieceU
              rw [List.nil_append, Nat.add_sub_cancel_left, e1]
            simp only [openPiece] at ih ⊢
            rw [e]
            exact ih
          | some a =>
            have ih := fields_spans s f (pos + 1) (some a) acc (by omega) (by omega) (fun b h => by cases h; have := hst a rfl; omega)
            simp only [openPiece] at ih ⊢
            rw [← e1, pieceU_grow _ _ _ _ (Nat.le_of_lt (hst a rfl))]
            exact ih
      · have hb' : 128 ≤ (s.data.toList.getD pos 0).toNat := by omega
        have hr : sepR (Utf8.decode s pos).1 = false := sepR_high _ (by rw [decode_N]; exact decodeN_high _ _ _ _ _ hb')
        rw [hr]
        have ht := decodeN_tail (s.data.toList.length - pos) (s.data.toList.getD pos 0).toNat (s.data.toList.getD (pos + 1) 0).toNat (s.data.toList.getD (pos + 2) 0).toNat (s.data.toList.getD (pos + 3) 0).toNat (by omega)
        rw [← decode_N] at ht
        have hw := width_pos s pos
        obtain ⟨K, hK⟩ : ∃ K, (Utf8.decode s pos).2 = K := ⟨_, rfl⟩
        rw [hK] at ht hw ⊢
        obtain ⟨t1, t2, t3, t4, t5⟩ := ht
        have hsk := wgo_skip K (openPiece s.data.toList st pos) (s.data.toList.drop pos) (by rw [List.length_drop]; omega) (fun j hj => by
          rw [getD_dropU]
          apply sepB_high
          rcases (show j = 0 ∨ j = 1 ∨ j = 2 ∨ j = 3 by omega) with rfl | rfl | rfl | rfl
          · exact hb'
          · exact t1 (by omega)
          · exact t2 (by omega)
          · exact t3 (by omega))
        rw [hsk, List.drop_drop]
        simp only [Bool.false_eq_true, if_false]
        cases st with
        | none =>
          have ih := fields_spans s f (pos + K) (some pos) acc (by omega) (by rw [size_eq]; omega) (fun a h => by cases h; omega)
          have e : ([] : List UInt8) ++ (s.data.toList.drop pos).take K = pieceU s.data.toList pos (pos + K) := by
            unfold pieceU
            rw [List.nil_append, Nat.add_sub_cancel_left]
          simp only [openPiece] at ih ⊢
          rw [e]
          exact ih
        | some a =>
          have ih := fields_spans s f (pos + K) (some a) acc (by omega) (by rw [size_eq]; omega) (fun b h => by cases h; have := hst a rfl; omega)
          simp only [openPiece] at ih ⊢
          rw [pieceU_grow _ _ _ _ (Nat.le_of_lt (hst a rfl))]
          exact ih
    · obtain rfl : pos = s.size := by omega
      have hd : s.data.toList.drop s.size = [] := List.drop_eq_nil_of_le (by rw [← size_eq]; exact Nat.le_refl _)
      rw [hd, spansFromP_end _ s _ _ _ _ hlt]
      cases st with
      | none => simp [closeSpans, openPiece, wgo]
      | some a =>
        have := pieceU_ne s.data.toList a s.size (hst a rfl) (by rw [← size_eq]; exact Nat.le_refl _)
        simp [closeSpans, openPiece, wgo, this]

/-- What FieldsFunc gives are the words. -/
theorem fields_words (s : ByteArray) : (goFieldsP sepR s).map (·.data.toList) = words s.data.toList := by
  have h := fields_spans s s.size 0 none [] (by omega) (Nat.zero_le _) (fun a h => by cases h)
  simp only [List.map_nil, List.nil_append, openPiece, List.drop_zero] at h
  unfold words goFieldsP spansOfP
  rw [h, List.map_map]
  congr 1
  funext p
  simp [pieceU]

/-- The lines of a text, each with its end. -/
def lgo (cur : List UInt8) : List UInt8 → List (List UInt8)
  | [] => if cur = [] then [] else [cur]
  | b :: r => if b == 10 then (cur ++ [b]) :: lgo [] r else lgo (cur ++ [b]) r
def lns (l : List UInt8) : List (List UInt8) := lgo [] l

theorem lgo_skip (a cur r : List UInt8) (h : (10 : UInt8) ∉ a) : lgo cur (a ++ r) = lgo (cur ++ a) r := by
  induction a generalizing cur with
  | nil => simp
  | cons b a ih =>
    have hb : (b == 10) = false := by rw [beq_eq_false_iff_ne]; rintro rfl; exact h (by simp)
    simp only [List.cons_append, lgo, hb, Bool.false_eq_true, if_false]
    rw [ih _ (fun hm => h (by simp [hm]))]
    simp
theorem index_none (l : List UInt8) (c : UInt8) (h : indexByte l c < 0) : c ∉ l := by
  induction l with
  | nil => simp
  | cons b l ih =>
    unfold indexByte at h
    have hg := indexByte_ge l c
    split at h
    · omega
    · rename_i hbc
      split at h
      · rename_i hm
        have hm' : indexByte l c = -1 := by simpa using hm
        have hn : b ≠ c := by simpa using hbc
        intro hmem
        rcases List.mem_cons.1 hmem with e | e
        · exact hn e.symm
        · exact ih (by omega) e
      · rename_i hm
        have hm' : indexByte l c ≠ -1 := by simpa using hm
        omega
theorem index_some (l : List UInt8) (c : UInt8) (i : Nat) (h : indexByte l c = i) : i < l.length ∧ l.drop i = c :: l.drop (i + 1) ∧ c ∉ l.take i := by
  induction l generalizing i with
  | nil => unfold indexByte at h; omega
  | cons b l ih =>
    unfold indexByte at h
    have hg := indexByte_ge l c
    split at h
    · rename_i hbc
      obtain rfl : i = 0 := by omega
      have : b = c := by simpa using hbc
      subst this
      simp
    · rename_i hbc
      have hn : b ≠ c := by simpa using hbc
      split at h
      · omega
      · rename_i hm
        have hm' : indexByte l c ≠ -1 := by simpa using hm
        cases i with
        | zero => omega
        | succ i =>
          obtain ⟨h1, h2, h3⟩ := ih i (by omega)
          refine ⟨by simp; omega, by simpa using h2, ?_⟩
          simp only [List.take_succ_cons, List.mem_cons, not_or]
          exact ⟨fun e => hn e.symm, h3⟩
/-- One line is cut off. -/
theorem lns_cut (l : List UInt8) (i : Nat) (h : indexByte l 10 = i) : lns l = l.take (i + 1) :: lns (l.drop (i + 1)) := by
  obtain ⟨h1, h2, h3⟩ := index_some l 10 i h
  unfold lns
  conv => lhs; rw [← List.take_append_drop i l, h2]
  rw [lgo_skip _ _ _ h3]
  have ht : l.take (i + 1) = l.take i ++ [10] := by
    have hx : l[i]? = some 10 := by
      have := congrArg (·[0]?) h2
      simpa [List.getElem?_drop] using this
    rw [List.take_add_one, hx]; rfl
  simp only [lgo, List.nil_append, beq_self_eq_true, if_true, ht]
theorem lns_last (l : List UInt8) (h : indexByte l 10 < 0) (hne : l ≠ []) : lns l = [l] := by
  have h1 := index_none l 10 h
  unfold lns
  have := lgo_skip l [] [] h1
  rw [List.append_nil, List.nil_append] at this
  rw [this]
  simp [lgo, hne]
theorem lns_nil : lns [] = [] := rfl

/-- How many lines. -/
theorem lgo_len (cur l : List UInt8) : (lgo cur l).length = l.count 10 + if (cur ++ l = [] ∨ (cur ++ l).getLast? = some 10 ∧ l ≠ []) then 0 else 1 := by
  induction l generalizing cur with
  | nil => by_cases h : cur = [] <;> simp [lgo, h]
  | cons b r ih =>
    by_cases hb : b = 10
    · subst hb
      simp only [lgo, beq_self_eq_true, if_true, List.length_cons, ih, List.nil_append, List.count_cons_self]
      by_cases hr : r = []
      · subst hr; simp
      · have e1 : (cur ++ 10 :: r).getLast? = r.getLast? := by
          rw [List.getLast?_append, List.getLast?_cons]
          cases hl : r.getLast? with
          | none => exact absurd (List.getLast?_eq_none_iff.1 hl) hr
          | some x => simp
        simp only [e1, hr, ne_eq, not_false_eq_true, and_true, reduceCtorEq, false_or, List.append_eq_nil_iff, and_false]
        omega
    · have hb' : (b == 10) = false := by simpa using hb
      simp only [lgo, hb', Bool.false_eq_true, if_false, ih, List.count_cons, Nat.add_zero]
      have e : cur ++ [b] ++ r = cur ++ b :: r := by simp
      rw [e]
      by_cases hr : r = []
      · subst hr
        simp [hb]
      · simp [hr]
end Go.Proofs.PA
end

/- Plain: the number that a word is. No program. -/
section
namespace Go.Proofs.PA
open Go.Lib

def digB (b : UInt8) : Bool := 48 ≤ b && b ≤ 57
/-- The value of digits, cut at a limit. -/
def clampF (M : Int) (x : Int) (l : List UInt8) : Int := l.foldl (fun x b => min (10 * x + ((b.toNat : Int) - 48)) M) x
/-- Whether digits may be those of a number. -/
def formB (w d : List UInt8) : Bool := !(decide (d = []) || (d.head? == some 48 && !decide (w = [48])))
def numM (M : Int) (w : List UInt8) : Int × Bool :=
  let d := trimPrefix w [45]
  if formB w d && d.all digB then ((if hasPrefix w [45] then - clampF M 0 d else clampF M 0 d), true) else (0, false)

theorem clamp_bound {M x : Int} {l : List UInt8} (hM : 0 ≤ M) (h0 : 0 ≤ x) (h1 : x ≤ M) (hl : ∀ b ∈ l, digB b = true) : 0 ≤ clampF M x l ∧ clampF M x l ≤ M := by
  induction l generalizing x with
  | nil => exact ⟨h0, h1⟩
  | cons b l ih =>
    have hb := hl b (by simp)
    unfold digB at hb
    simp only [Bool.and_eq_true, decide_eq_true_eq, UInt8.le_iff_toNat_le] at hb
    have h48 : (48 : UInt8).toNat = 48 := rfl
    exact ih (x := min (10 * x + ((b.toNat : Int) - 48)) M) (by omega) (by omega) (fun c hc => hl c (by simp [hc]))
theorem clamp_snoc (M x : Int) (l : List UInt8) (b : UInt8) : clampF M x (l ++ [b]) = min (10 * clampF M x l + ((b.toNat : Int) - 48)) M := by simp [clampF]
theorem take_snoc {l : List UInt8} {k : Nat} (h : k < l.length) : l.take (k + 1) = l.take k ++ [l.getD k 0] := by
  rw [List.take_succ_eq_append_getElem h, List.getD_eq_getElem?_getD, List.getElem?_eq_getElem h]; rfl
theorem digB_iff (b : UInt8) : digB b = true ↔ 48 ≤ (b.toNat : Int) ∧ (b.toNat : Int) ≤ 57 := by
  unfold digB
  have h48 : (48 : UInt8).toNat = 48 := rfl
  have h57 : (57 : UInt8).toNat = 57 := rfl
  simp only [Bool.and_eq_true, decide_eq_true_eq, UInt8.le_iff_toNat_le, h48, h57]
  omega
theorem all_at {l : List UInt8} (h : ∀ j, j < l.length → digB (l.getD j 0) = true) : l.all digB = true := by
  rw [List.all_eq_true]
  intro x hx
  obtain ⟨j, hj, rfl⟩ := List.getElem_of_mem hx
  have := h j hj
  rwa [List.getD_eq_getElem?_getD, List.getElem?_eq_getElem hj] at this
theorem all_not {l : List UInt8} {k : Nat} (hk : k < l.length) (h : digB (l.getD k 0) = false) : l.all digB = false := by
  rw [Bool.eq_false_iff]
  intro ha
  rw [List.all_eq_true] at ha
  have := ha _ (List.getElem_mem hk)
  rw [List.getD_eq_getElem?_getD, List.getElem?_eq_getElem hk] at h
  simp at h
  rw [h] at this
  cases this
theorem take_dig {l : List UInt8} {k : Nat} (hk : k ≤ l.length) (h : ∀ j, j < k → digB (l.getD j 0) = true) : ∀ b ∈ l.take k, digB b = true := by
  intro b hb
  obtain ⟨j, hj, rfl⟩ := List.getElem_of_mem hb
  simp at hj
  have := h j (by omega)
  rw [List.getD_eq_getElem?_getD, List.getElem?_eq_getElem (by omega)] at this
  simpa using this
theorem num_false {M : Int} {w : List UInt8} (h : formB w (trimPrefix w [45]) = false ∨ (trimPrefix w [45]).all digB = false) : numM M w = (0, false) := by
  unfold numM
  rcases h with h | h <;> simp [h]
theorem num_true {M : Int} {w d : List UInt8} {n : Bool} (hd : trimPrefix w [45] = d) (hn : hasPrefix w [45] = n) (h1 : formB w d = true) (h2 : d.all digB = true) : numM M w = (if n then - clampF M 0 d else clampF M 0 d, true) := by
  unfold numM
  simp [hd, hn, h1, h2]
end Go.Proofs.PA
end
