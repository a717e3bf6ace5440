/- Several texts, joined. -/
import Derived.Test.YtlkhabdpancjjaaDoorQ14
import Derived.Test.YtlkhabdpancjjaaDoorQ10
import Derived.Test.YtlkhabdpancjjaaDoorQ11
import Derived.Test.YtlkhabdpancjjaaDoorQ12
import Derived.Lib.ItoaMem
import Derived.Test.YtlkhabdpancjjaaDoorQ13
import Derived.Test.YtlkhabdpancjjaaDoorRows
import Derived.LaidMore
import Derived.LaidLaws
import Derived.LaidHandle
import Derived.MakeChecks
import Derived.Lib.LaidTab
import Derived.Stop.LaidErr
import Derived.Stop.Joined

/- Contracts of the law's two and known. -/
section
namespace Go.Proofs.YtlkhabdpancjjaaDoor
open Go.RowKit PA
namespace L
open K

def twoL : List (List Int) := [[1, -3], []]
theorem two_lists (w : World) (b c d : Nat) (h1 : Box w c 34 #[.slice (some ⟨b, 0, none⟩) 2 2, .slice (some ⟨d, 0, none⟩) 0 0]) (h2 : Box w b 3 #[.int .i64 1, .int .i64 (-3)]) : Lists w (.slice (some ⟨c, 0, none⟩) 2 2) twoL := by
  refine ⟨_, 2, rfl, by decide, by decide, fun _ => ⟨c, 0, rfl, fun j hj => ?_⟩⟩
  have hj2 : j < 2 := hj
  match j, hj2 with
  | 0, _ => exact ⟨_, h1.cell 0, _, 2, rfl, by decide, by decide, fun _ => ⟨b, 0, rfl, fun i hi => by
      have hi2 : i < 2 := hi
      match i, hi2 with
      | 0, _ => exact h2.cell 0
      | 1, _ => exact h2.cell 1⟩⟩
  | 1, _ => exact ⟨_, h1.cell 1, some ⟨d, 0, none⟩, 0, rfl, by decide, by decide, fun h => absurd h (by decide)⟩
set_option maxHeartbeats 1000000 in
theorem two_any (w : World) : Calls Tryd.prog 21 #[] w fun e w' => ∃ v, e = .returned (.agg #[.int .i64 3, v]) ∧ Lists w' v twoL ∧ Below w.heap.size w w' := by
  go_enter Tryd.func21, Tryd.ntmps21
  go_wp2
  refine bodyPost_ret (res_cell rfl rfl (by simp [go_sem]; rfl)) rfl ?_
  refine ⟨_, rfl, two_lists _ (w.heap.size + 1) _ _ (Box.at _ _ _ (by simp)) (((Box.at _ _ _ (by simp)).alloc _).alloc _), ?_⟩
  exact ((((Below.refl _ _).alloc (Nat.le_refl _) _).alloc (by simp) _).alloc (by simp; omega) _).alloc (by simp; omega) _
def twoT : List UInt8 := [112, 32, 99, 110, 102, 32, 51, 32, 50, 10, 49, 32, 45, 51, 32, 48, 10, 48, 10]
theorem two_fmt : fmtS 3 twoL = (twoT, 0) := by decide +kernel
theorem two_parse : parseS twoT = (3, twoL, 0, 0) := by decide +kernel

set_option maxRecDepth 100000 in
set_option maxHeartbeats 4000000 in
theorem known_any (w : World) (ht : Tab w) : Calls Tryd.prog 12 #[] w fun e w' => e = .returned (.bool true) ∧ Below w.heap.size w w' := by
  have HT := Lib.hid ht
  have hp := fun W => parse_any ⟨twoT.toArray⟩ W (by decide)
  have hpd : (⟨twoT.toArray⟩ : ByteArray).data.toList = twoT := rfl
  rw [hpd, two_parse] at hp
  have HP := Lib.hid hp
  clear hp hpd ht
  go_enter Tryd.func12, Tryd.ntmps12
  go_wp2_with (go_at_call 21; refine (two_any _).mono ?_; rintro e w1 ⟨v1, rfl, hl1, hb1⟩; refine Hid.out ?_)
  refine Lib.hid ?_
  have hf := format_any 3 v1 twoL w1 (by unfold I64; omega) (by simp [twoL, I64]) hl1 (HT.out.below hb1)
  rw [two_fmt] at hf
  have hb1' := Lib.hid hb1
  clear hl1 hb1
  go_wp2_with (go_at_call 13; refine hf.mono ?_; rintro e w2 ⟨rfl, hb2⟩; refine Hid.out ?_)
  refine Lib.hid ?_
  have hB2 := hb1'.out.trans (hb2.mono hb1'.out.size)
  have HB2 := Lib.hid hB2
  clear hb1' hb2 hf hB2
  go_wp2_with (go_at_call 15; refine (HP.out _).mono ?_; rintro e w3 ⟨v3, B3, rfl, hb3, hB3, ho3⟩; refine Hid.out ?_)
  refine Lib.hid ?_
  have hl3 : Lists w3 v3 twoL := ho3.lists (by decide) (by decide)
  have hB3' := HB2.out.trans (hb3.mono HB2.out.size)
  have HB3 := Lib.hid hB3'
  have HL3 := Lib.hid hl3
  clear hl3 hB3' hb3 ho3 hB3
  obtain ⟨p3, c3, rfl, _⟩ := HL3.out
  have hbx := Box.new w3 24 #[.int .i64 3, .slice p3 twoL.length c3]
  have hal : Below w3.heap.size w3 (w3.alloc (.cells #[.int .i64 3, .slice p3 twoL.length c3] 24)) := (Below.refl _ _).alloc (Nat.le_refl _) _
  have HL4 := Lib.hid (HL3.out.below hal)
  have HB4 := Lib.hid (HB3.out.trans (hal.mono HB3.out.size))
  clear hal
  go_wp2
  have x0 := hbx.cell 0
  have x1 := hbx.cell 1
  have xs := hbx.lt
  simp only [List.getElem?_toArray, List.getElem?_cons_zero, List.getElem?_cons_succ] at x0 x1
  generalize hW4 : w3.alloc (.cells #[.int .i64 3, .slice p3 twoL.length c3] 24) = w4 at *
  clear hW4 hbx
  generalize hG3 : w3.heap.size = g3 at *
  clear hG3
  have HP3 : Hid True := Lib.hid trivial
  rw [show twoT.toArray = #[112, 32, 99, 110, 102, 32, 51, 32, 50, 10, 49, 32, 45, 51, 32, 48, 10, 48, 10] from rfl]
  go_region_held3 (fun w' => w'.cell? ⟨g3, 0, none⟩ = some (.int .i64 3) ∧ w'.cell? ⟨g3, 1, none⟩ = some (.slice p3 twoL.length c3) ∧ Below w4.heap.size w4 w')
    (first
      | (exact ⟨x0, x1, (Below.refl _ _).drew⟩)
      | (go_split_ands
         have hbz := Below.trans (by assumption : Below w4.heap.size w4 _) (hbA.mono (Below.size (by assumption : Below w4.heap.size w4 _)))
         exact ⟨(hbz.cell (p := ⟨g3, 0, none⟩) xs).trans x0, (hbz.cell (p := ⟨g3, 1, none⟩) xs).trans x1, hbz⟩))
    (first
      | (go_at_call 21
         refine (two_any _).mono ?_
         rintro e wA ⟨vA, rfl, hLA, hbA⟩)
      | (go_at_call 17
         go_split_ands
         with_reducible refine (keqf_any 3 3 (.slice p3 twoL.length c3) _ twoL twoL _ ?h1 ?h2).mono ?_
         · exact HL4.out.below (by assumption)
         · assumption
         rw [show eqF 3 twoL 3 twoL = true by decide]
         rintro e wA ⟨rfl, hbA⟩))
  all_goals
    rename_i hHeld
    obtain ⟨-, -, hBz⟩ := hHeld
    have hB7 := HB4.out.trans (hBz.mono HB4.out.size)
    go_wp2
    go_ret
    exact ⟨rfl, hB7⟩
end L
end Go.Proofs.YtlkhabdpancjjaaDoor
end

/- Plain: a formula is read from its text. No program. -/
section
namespace Go.Proofs.PA
open Go.Lib

theorem dec_rec (u : Nat) (h : ¬ u < 10) : decDigits u = decDigits (u / 10) ++ [UInt8.ofNat (48 + u % 10)] := by rw [decDigits, dif_neg h]
theorem dig_nat (d : Nat) (h : d < 10) : (UInt8.ofNat (48 + d)).toNat = 48 + d := by
  rw [UInt8.toNat_ofNat']; omega
theorem dec_dig (u : Nat) : ∀ b ∈ decDigits u, digB b = true := by
  induction u using Nat.strongRecOn with
  | _ u ih =>
    by_cases h : u < 10
    · rw [decDigits_one h]
      intro b hb
      obtain rfl := List.mem_singleton.1 hb
      rw [digB_iff, dig_nat u h]; omega
    · rw [dec_rec u h]
      intro b hb
      rcases List.mem_append.1 hb with hb | hb
      · exact ih (u / 10) (by omega) b hb
      · obtain rfl := List.mem_singleton.1 hb
        rw [digB_iff, dig_nat _ (by omega)]; omega
theorem dec_ne (u : Nat) : decDigits u ≠ [] := by
  by_cases h : u < 10
  · rw [decDigits_one h]; simp
  · rw [dec_rec u h]; simp
theorem dec_head (u : Nat) (h0 : 0 < u) : (decDigits u).head? ≠ some 48 := by
  induction u using Nat.strongRecOn with
  | _ u ih =>
    by_cases h : u < 10
    · rw [decDigits_one h]
      intro he
      have he' : UInt8.ofNat (48 + u) = 48 := by simpa using he
      have := congrArg UInt8.toNat he'
      rw [dig_nat u h] at this
      have h48 : (48 : UInt8).toNat = 48 := rfl
      omega
    · rw [dec_rec u h]
      have := ih (u / 10) (by omega) (by omega)
      cases hd : decDigits (u / 10) with
      | nil => exact absurd hd (dec_ne _)
      | cons a r => rw [hd] at this; simpa using this
theorem dec_clamp (M : Int) (u : Nat) (h : (u : Int) ≤ M) : clampF M 0 (decDigits u) = u := by
  induction u using Nat.strongRecOn with
  | _ u ih =>
    by_cases h1 : u < 10
    · rw [decDigits_one h1]
      simp only [clampF, List.foldl_cons, List.foldl_nil]
      rw [dig_nat u h1]; omega
    · rw [dec_rec u h1, clamp_snoc, ih (u / 10) (by omega) (by omega), dig_nat _ (by omega)]
      omega
theorem num_nat (M : Int) (u : Nat) (h : (u : Int) ≤ M) : numM M (decDigits u) = ((u : Int), true) := by
  have hd := dec_dig u
  have hne := dec_ne u
  have hp : hasPrefix (decDigits u) [45] = false := by
    cases hc : decDigits u with
    | nil => exact absurd hc hne
    | cons a r =>
      have := hd a (by rw [hc]; simp)
      have ha : a ≠ 45 := by rintro rfl; exact absurd this (by decide)
      have ha' : (45 == a) = false := by rw [beq_eq_false_iff_ne]; exact fun e => ha e.symm
      simp [hasPrefix, List.isPrefixOf, ha']
  have ht : trimPrefix (decDigits u) [45] = decDigits u := by simp [trimPrefix, hp]
  rw [num_true ht hp ?_ (List.all_eq_true.2 hd), dec_clamp M u h]
  · rfl
  · unfold formB
    by_cases h0 : u = 0
    · subst h0; rw [decDigits_one (by omega)]; decide
    · have := dec_head u (by omega)
      simp [hne, this]
theorem num_neg (M : Int) (u : Nat) (h0 : 0 < u) (h : (u : Int) ≤ M) : numM M (45 :: decDigits u) = (-(u : Int), true) := by
  have hd := dec_dig u
  have hne := dec_ne u
  have hp : hasPrefix (45 :: decDigits u) [45] = true := by simp [hasPrefix]
  have ht : trimPrefix (45 :: decDigits u) [45] = decDigits u := by simp [trimPrefix, hp]
  rw [num_true ht hp ?_ (List.all_eq_true.2 hd), dec_clamp M u h]
  · rfl
  · unfold formB
    have := dec_head u h0
    simp [hne, this]
theorem num_itoa (x : Int) (h0 : -1048577 ≤ x) (h1 : x ≤ 1048577) : num (itoa x) = (x, true) := by
  unfold num itoa
  split
  · rw [num_neg _ _ (by omega) (by omega)]
    congr 1; omega
  · rw [num_nat _ _ (by omega)]
    congr 1; omega
theorem itoa_sep (x : Int) : ∀ b ∈ itoa x, sepB b = false := by
  have hdg : ∀ b, digB b = true → sepB b = false := by
    intro b hb
    unfold sepB
    rw [digB_iff] at hb
    have e : ∀ c : UInt8, c.toNat < 48 → (b == c) = false := fun c hc => by
      rw [beq_eq_false_iff_ne]; rintro rfl; omega
    rw [e 32 (by decide), e 9 (by decide), e 10 (by decide)]; rfl
  intro b hb
  unfold itoa at hb
  split at hb
  · rcases List.mem_cons.1 hb with rfl | hb
    · decide
    · exact hdg b (dec_dig _ b hb)
  · exact hdg b (dec_dig _ b hb)
theorem itoa_ne (x : Int) : itoa x ≠ [] := by
  unfold itoa
  split
  · simp
  · exact dec_ne _
theorem itoa_c (x : Int) : itoa x ≠ [99] := by
  intro h
  have : (num (itoa x)).2 = false := by rw [h]; decide
  unfold itoa at h
  split at h
  · injection h with h1 h2; exact absurd h1 (by decide)
  · have := dec_dig x.toNat 99 (by rw [h]; simp)
    exact absurd this (by decide)
theorem wgo_word (cur a r : List UInt8) (b : UInt8) (ha : ∀ c ∈ a, sepB c = false) (hb : sepB b = true) (hne : cur ++ a ≠ []) : wgo cur (a ++ b :: r) = (cur ++ a) :: wgo [] r := by
  induction a generalizing cur with
  | nil =>
    have : cur ≠ [] := by simpa using hne
    simp [wgo, hb, this]
  | cons x a ih =>
    have hx := ha x (by simp)
    simp only [List.cons_append, wgo, hx, Bool.false_eq_true, if_false]
    rw [ih (cur ++ [x]) (fun c hc => ha c (by simp [hc])) (by simp)]
    simp
theorem words_clause (c : List Int) : words (clauseT c) = c.map itoa ++ [[48]] := by
  unfold words clauseT
  induction c with
  | nil => decide
  | cons x c ih =>
    have : (x :: c).flatMap litT ++ [48, 10] = itoa x ++ 32 :: (c.flatMap litT ++ [48, 10]) := by simp [litT]
    rw [this, wgo_word [] (itoa x) _ 32 (itoa_sep x) (by decide) (by simpa using itoa_ne x), ih]
    rfl
theorem words_head (n : Int) (k : Nat) : words (headT n k) = [[112], [99, 110, 102], itoa n, itoa k] := by
  have : headT n k = [112] ++ 32 :: ([99, 110, 102] ++ 32 :: (itoa n ++ 32 :: (itoa k ++ 10 :: []))) := by simp [headT]
  unfold words
  rw [this, wgo_word [] [112] _ 32 (by decide) (by decide) (by decide), wgo_word [] [99, 110, 102] _ 32 (by decide) (by decide) (by decide), wgo_word [] (itoa n) _ 32 (itoa_sep n) (by decide) (by simpa using itoa_ne n), wgo_word [] (itoa k) _ 10 (itoa_sep k) (by decide) (by simpa using itoa_ne k)]
  rfl
theorem lns_line (a r : List UInt8) (h : (10 : UInt8) ∉ a) : lns (a ++ 10 :: r) = (a ++ [10]) :: lns r := by
  unfold lns
  rw [lgo_skip _ _ _ h]
  simp [lgo]
theorem itoa_10 (x : Int) : (10 : UInt8) ∉ itoa x := fun h => absurd (itoa_sep x 10 h) (by decide)
theorem lns_clauses (L : List (List Int)) (r : List UInt8) : lns (L.flatMap clauseT ++ r) = L.map clauseT ++ lns r := by
  induction L with
  | nil => rfl
  | cons c L ih =>
    have hn : (10 : UInt8) ∉ c.flatMap litT ++ [48] := by
      intro h
      rcases List.mem_append.1 h with h | h
      · obtain ⟨x, _, hx⟩ := List.mem_flatMap.1 h
        unfold litT at hx
        rcases List.mem_append.1 hx with hx | hx
        · exact itoa_10 x hx
        · exact absurd hx (by decide)
      · exact absurd h (by decide)
    have e : (c :: L).flatMap clauseT ++ r = (c.flatMap litT ++ [48]) ++ 10 :: (L.flatMap clauseT ++ r) := by simp [clauseT]
    rw [e, lns_line _ _ hn, ih]
    simp [clauseT]
theorem lns_text (n : Int) (L : List (List Int)) (r : List UInt8) : lns (textT n L ++ r) = headT n L.length :: (L.map clauseT ++ lns r) := by
  have hn : (10 : UInt8) ∉ [112, 32, 99, 110, 102, 32] ++ itoa n ++ [32] ++ itoa (L.length : Nat) := by
    simp only [List.mem_append, not_or]
    exact ⟨⟨⟨by decide, itoa_10 _⟩, by decide⟩, itoa_10 _⟩
  have e : textT n L ++ r = ([112, 32, 99, 110, 102, 32] ++ itoa n ++ [32] ++ itoa (L.length : Nat)) ++ 10 :: (L.flatMap clauseT ++ r) := by simp [textT, headT]
  rw [e, lns_line _ _ hn, lns_clauses]
  rfl

/-- What Check asks of a clause. -/
def ClauseOk (n : Int) (c : List Int) : Prop := c.length ≤ 4096 ∧ ∀ x ∈ c, x ≠ 0 ∧ -n ≤ x ∧ x ≤ n
theorem read_lits (r : RS) (pre c : List Int) (ws : List (List UInt8)) (hl : r.left ≠ 0) (hv : r.vars ≤ 1048576) (hlen : pre.length + c.length ≤ 4096) (hc : ∀ x ∈ c, x ≠ 0 ∧ -r.vars ≤ x ∧ x ≤ r.vars) :
    wordsS { r with cur := pre } (c.map itoa ++ ws) = wordsS { r with cur := pre ++ c } ws := by
  induction c generalizing pre with
  | nil => simp
  | cons x c ih =>
    obtain ⟨h1, h2, h3⟩ := hc x (by simp)
    have hn := num_itoa x (by omega) (by omega)
    have ha : addS { r with cur := pre } (itoa x) = ({ r with cur := pre ++ [x] }, 0) := by
      unfold addS
      rw [hn]
      simp only [List.length_cons] at hlen
      rw [if_neg (by simp [hl]), if_neg h1, if_neg (by simp only; omega), if_neg (by simp only; omega)]
    simp only [List.map_cons, List.cons_append, wordsS, ha, if_true]
    rw [ih (pre ++ [x]) (by simp at hlen ⊢; omega) (fun y hy => hc y (by simp [hy]))]
    simp
theorem read_clause (r : RS) (c : List Int) (hcur : r.cur = []) (hl : r.left ≠ 0) (hv : r.vars ≤ 1048576) (hc : ClauseOk r.vars c) :
    wordsS r (c.map itoa ++ [[48]]) = ({ r with cls := r.cls ++ [c], cur := [], left := r.left - 1 }, 0) := by
  have h := read_lits r [] c [[48]] hl hv (by simpa using hc.1) hc.2
  have e : { r with cur := [] } = r := by cases r; simp at hcur; subst hcur; rfl
  rw [e] at h
  rw [h]
  have hn : num [48] = (0, true) := by decide
  simp [wordsS, addS, hn, hl]
theorem content_clauses (m : Int) (c : List Int) (R : List (List UInt8)) : contentS m (clauseT c :: R) = (m + 1, c.map itoa ++ [[48]]) :: contentS (m + 1) R := by
  have hn : ¬ (c.map itoa ++ [[48]] = [] ∨ (c.map itoa ++ [[48]]).head? = some [99]) := by
    intro h
    rcases h with h | h
    · simp at h
    · cases c with
      | nil => simp at h
      | cons x c => simp at h; exact itoa_c x h
  rw [contentS, words_clause, if_neg hn]
theorem read_clauses (L : List (List Int)) (r : RS) (m : Int) (R : List (List UInt8)) (hh : r.header = true) (hcur : r.cur = []) (hl : (L.length : Int) ≤ r.left) (hv : r.vars ≤ 1048576) (hf : r.first = 0) (hc : ∀ c ∈ L, ClauseOk r.vars c) :
    ∃ ln, readS r (contentS m (L.map clauseT ++ R)) = readS { r with line := ln, cls := r.cls ++ L, left := r.left - L.length } (contentS (m + L.length) R) := by
  induction L generalizing r m with
  | nil =>
    refine ⟨r.line, ?_⟩
    simp
  | cons c L ih =>
    rw [List.map_cons, List.cons_append, content_clauses]
    have hrc := read_clause { r with line := m + 1 } c hcur (by simp only [List.length_cons] at hl; show r.left ≠ 0; omega) hv (hc c (by simp))
    have hline : lineS r (m + 1, c.map itoa ++ [[48]]) = { r with line := m + 1, cls := r.cls ++ [c], cur := [], left := r.left - 1, first := 0 } := by
      unfold lineS takeS
      rw [if_pos (by exact hh), hrc]
    rw [readS, hline, if_pos rfl]
    obtain ⟨ln, h⟩ := ih { r with line := m + 1, cls := r.cls ++ [c], cur := [], left := r.left - 1, first := 0 } (m + 1) hh rfl (by simp only [List.length_cons] at hl; show (L.length : Int) ≤ r.left - 1; omega) hv rfl (fun d hd => hc d (by simp [hd]))
    refine ⟨ln, ?_⟩
    rw [h]
    have e1 : r.left - 1 - (L.length : Int) = r.left - ((c :: L).length : Int) := by simp only [List.length_cons]; omega
    have e2 : m + 1 + (L.length : Int) = m + ((c :: L).length : Int) := by simp only [List.length_cons]; omega
    have e3 : r.cls ++ [c] ++ L = r.cls ++ c :: L := by simp
    simp only [e1, e2, e3]
    cases r
    simp at hcur hf
    subst hcur hf
    rfl
theorem read_head (n : Int) (k : Nat) (h0 : 0 ≤ n) (h1 : n ≤ 1048576) (hk : k ≤ 1048576) (R : List (List UInt8)) :
    readS start (contentS 0 (headT n k :: R)) = readS { start with line := 1, header := true, vars := n, left := k } (contentS 1 R) := by
  have hw := words_head n k
  have hhd : headS [[112], [99, 110, 102], itoa n, itoa (k : Nat)] = (n, (k : Int), 0) := by
    unfold headS
    rw [if_neg (by simp)]
    have e2 : [[112], [99, 110, 102], itoa n, itoa (k : Nat)].getD 2 [] = itoa n := rfl
    have e3 : [[112], [99, 110, 102], itoa n, itoa (k : Nat)].getD 3 [] = itoa (k : Nat) := rfl
    rw [e2, e3, num_itoa n (by omega) (by omega), num_itoa (k : Nat) (by omega) (by omega)]
    simp only
    rw [if_neg (by simp; omega), if_neg (by omega), if_neg (by omega)]
  have hcs : contentS 0 (headT n k :: R) = (1, [[112], [99, 110, 102], itoa n, itoa (k : Nat)]) :: contentS 1 R := by
    rw [contentS, hw, if_neg (by simp)]; rfl
  rw [hcs, readS]
  have hline : lineS start (1, [[112], [99, 110, 102], itoa n, itoa (k : Nat)]) = { start with line := 1, header := true, vars := n, left := k } := by
    unfold lineS takeS
    rw [if_neg (by simp [start])]
    unfold beginS
    rw [hhd, if_pos rfl]
    rfl
  rw [hline]
  rfl
/-- THE FORMULA IS READ FROM ITS TEXT. -/
theorem parse_text (n : Int) (L : List (List Int)) (h0 : 0 ≤ n) (h1 : n ≤ 1048576) (hL : L.length ≤ 1048576) (hc : ∀ c ∈ L, ClauseOk n c) (hlen : (textT n L).length ≤ 65536) : parseS (textT n L) = (n, L, 0, 0) := by
  have hln := lns_text n L []
  rw [List.append_nil, lns_nil, List.append_nil] at hln
  obtain ⟨ln, hr⟩ := read_clauses L { start with line := 1, header := true, vars := n, left := L.length } 1 [] rfl rfl (Int.le_refl _) h1 rfl hc
  rw [List.append_nil] at hr
  have hrun : runS (textT n L) = { start with line := ln, header := true, vars := n, cls := L, left := 0 } := by
    unfold runS
    rw [if_neg (by omega), hln, read_head n L.length h0 h1 hL, hr]
    simp [contentS, readS, endS, start]
  unfold parseS
  rw [hrun]
  rfl
end Go.Proofs.PA
end

/- The law DimacsBack. -/
section
namespace Go.Proofs.PA
open Go.Lib Go.Proofs.YtlkhabdpancjjaaDoor.L
theorem clauses_len (L : List (List Int)) (K : Nat) (h : ∀ c ∈ L, (clauseT c).length ≤ K) : (L.flatMap clauseT).length ≤ L.length * K := by
  induction L with
  | nil => simp
  | cons c L ih =>
    have h1 := h c (by simp)
    have h2 := ih (fun d hd => h d (by simp [hd]))
    simp only [List.flatMap_cons, List.length_append, List.length_cons, Nat.add_mul]
    omega
theorem clause_len (c : List Int) (h : ∀ x ∈ c, (itoa x).length ≤ 21) : (clauseT c).length ≤ 22 * c.length + 2 := by
  have := lits_len c c.length (Nat.le_refl _) h
  rw [List.take_length] at this
  unfold clauseT
  rw [List.length_append]
  have e : ([48, 10] : List UInt8).length = 2 := rfl
  omega
theorem head_len (n : Int) (k : Nat) (hn : -9223372036854775808 ≤ n) (hn2 : n ≤ 9223372036854775807) (hk : k ≤ 1048576) : (headT n k).length ≤ 60 := by
  have h1 := itoa_length_le n hn hn2
  have h2 := itoa_length_le (k : Int) (by omega) (by omega)
  unfold headT
  simp; omega
end Go.Proofs.PA
namespace Go.Proofs.YtlkhabdpancjjaaDoor
open Go.RowKit PA
namespace L
open K

/-- What Fit gives can be written and read. -/
structure Good (V : Int) (L : List (List Int)) : Prop where
  i64 : ∀ l ∈ L, ∀ x ∈ l, I64 x
  chk : checkF V L = 0
  len : (textT V L).length ≤ 65536
  v0 : 0 ≤ V
  v1 : V ≤ 1048576
  fmt : fmtS V L = (textT V L, 0)
  prs : parseS (textT V L) = (V, L, 0, 0)
  sm : L.length ≤ 30
  smc : ∀ l ∈ L, l.length ≤ 20
theorem good_fit {V : Int} {L : List (List Int)} (h1 : 1 ≤ V) (h2 : V ≤ 1000) (h : fitOk L = true) : Good V (fitL V L) := by
  have hi := fit_i64 (L := L) h1 h2
  have hck := fit_check h1 h2 h
  obtain ⟨hl, hlc⟩ := fit_len (V := V) h
  have hcl := clauses_len (fitL V L) 442 (fun c hc => by
    have := clause_len c (fun x hx => by have := hi c hc x hx; exact Lib.itoa_length_le x this.1 this.2)
    have := hlc c hc
    omega)
  have hhd := head_len V (fitL V L).length (by omega) (by omega) (by omega)
  have hlen : (textT V (fitL V L)).length ≤ 65536 := by
    unfold textT
    rw [List.length_append]
    have : (fitL V L).length * 442 ≤ 30 * 442 := Nat.mul_le_mul_right _ hl
    omega
  have hco : ∀ c ∈ fitL V L, ClauseOk V c := by
    intro c hc
    refine ⟨by have := hlc c hc; omega, fun x hx => ?_⟩
    obtain ⟨l', _, rfl⟩ := fitL_mem hc
    have := fitC_mem h1 h2 x hx
    refine ⟨this.1, ?_⟩
    have h3 := this.2.1
    unfold av at h3
    split at h3 <;> omega
  exact ⟨hi, hck, hlen, by omega, by omega, by unfold fmtS; rw [if_neg (by omega), if_neg (by omega)], parse_text V _ (by omega) (by omega) (by omega) hco hlen, hl, hlc⟩
end L
end Go.Proofs.YtlkhabdpancjjaaDoor
end

/- What the listed tables give a walk; a start that meets the condition. -/
section
namespace Go.Proofs.YtlkhabdpancjjaaDoor
open Go
abbrev laid3 : List (String × DataW Unit) := [("math/bits.deBruijn32tab", Rows.laid_math_bits_deBruijn32tab), ("math/bits.deBruijn64tab", Rows.laid_math_bits_deBruijn64tab), ("internal/strconv.uint64pow10", Rows.laid_internal_strconv_uint64pow10)]
theorem door_met (os : Os) (args : Array Value) : laidMetH Tryd.prog laid3 ((World.doorLaid Tryd.prog 24 os).forCall (fun _ _ => 0) ⟨#[], args, []⟩).memory :=
  laidMetH_of_parts3 (fuel := 8) (laidMet_of_run' 8 (by kernel_rfl) (by kernel_rfl)) (by kernel_rfl) (by kernel_rfl)
theorem pow10_tab : (Rows.laid_internal_strconv_uint64pow10 : DataW Unit) = Lib.tabData .u64 Lib.pow10Tab := by kernel_rfl
theorem tab_of_laid {W : World} (h : laidMetH Tryd.prog laid3 W) : L.Tab W := by
  rw [MakeChecks.laidMetH_plain _ _ _ (by kernel_rfl)] at h
  have h2 := h.tail.tail
  rw [pow10_tab] at h2
  exact Lib.tabIs_of_head L.Tryd.gpow (by kernel_rfl) Tryd.underlying97 Tryd.underlying74 (by kernel_rfl) (by kernel_rfl) h2
end Go.Proofs.YtlkhabdpancjjaaDoor
end
