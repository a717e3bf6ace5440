/- Several texts, joined. -/
import Derived.Test.YtfhodbnhaaiceaaDoorQ21

/- Implied by unit propagation, plain. -/
section
namespace Go.Proofs.YtfhodbnhaaiceaaDoor
open Go.RowKit Go.Conc
namespace L
open K

/-- What a clause's negation assumes. -/
def negL (c : List Int) : List Int := c.map fun x => -x
theorem mem_negL {c : List Int} {x : Int} : x ∈ negL c ↔ -x ∈ c := by
  unfold negL
  rw [List.mem_map]
  exact ⟨fun ⟨y, hy, e⟩ => by rw [show -x = y by omega]; exact hy, fun h => ⟨-x, h, by omega⟩⟩
theorem negL_val {n : Nat} {c : List Int} (h : U.Val n c) : U.Val n (negL c) := by
  intro x hx
  have := h _ (mem_negL.1 hx)
  omega
/-- Implied: its negation fails. -/
def Imp (F : List (List Int)) (c : List Int) : Prop := U.Bad F (negL c)
theorem Imp.mono {F G : List (List Int)} {c d : List Int} (h : Imp F c) (h1 : ∀ a ∈ F, a ∈ G) (h2 : ∀ x ∈ c, x ∈ d) : Imp G d :=
  U.Bad.mono h1 (fun _ hx => mem_negL.2 (h2 _ (mem_negL.1 hx))) h
/-- A clause of the formula, and each clause that contains its literals. -/
theorem imp_own {F : List (List Int)} {c d : List Int} (hc : c ∈ F) (h : ∀ x ∈ c, x ∈ d) : Imp F d :=
  .inr ⟨c, hc, fun y hy => .assume (mem_negL.2 (by rw [Int.neg_neg]; exact h y hy))⟩
theorem imp_taut {F : List (List Int)} {c : List Int} {x : Int} (h1 : x ∈ c) (h2 : -x ∈ c) : Imp F c :=
  .inl ⟨x, mem_negL.2 h2, mem_negL.2 (by rw [Int.neg_neg]; exact h1)⟩
/-- An implied clause holds in every model. -/
theorem imp_sound {m : List Bool} {n : Nat} {F : List (List Int)} {c : List Int} (hm : m.length = n) (hF : ∀ c ∈ F, holdsB m c = true) (hv : ∀ c ∈ F, U.Val n c) (hc : U.Val n c) (h : Imp F c) : holdsB m c = true := by
  cases hh : holdsB m c with
  | true => rfl
  | false =>
    refine absurd h (bad_sound hm hF hv (fun a ha => ?_) (negL_val hc))
    have h1 := mem_negL.1 ha
    obtain ⟨g1, g2⟩ := hc _ h1
    unfold holdsB at hh
    have h2 := List.any_eq_false.1 hh _ h1
    have h3 := litB_neg hm g1 g2
    rw [Int.neg_neg] at h3
    rw [h3]
    cases hb : litB m (-a) with
    | true => exact absurd hb h2
    | false => rfl
open Classical in
/-- The index of the first clause that is not implied by the formula and the clauses before it. -/
noncomputable def firstNot : List (List Int) → List (List Int) → Option Nat
  | _, [] => none
  | F, c :: r => if Imp F c then (firstNot (F ++ [c]) r).map (· + 1) else some 0
theorem firstNot_lt {F p : List (List Int)} {i : Nat} (h : firstNot F p = some i) : i < p.length := by
  induction p generalizing F i with
  | nil => cases h
  | cons c r ih =>
    unfold firstNot at h
    split at h
    · obtain ⟨j, hj, rfl⟩ := Option.map_eq_some_iff.1 h
      have := ih hj
      simp; omega
    · cases h; simp
/-- All clauses before that index hold in each model. -/
theorem firstNot_sound {m : List Bool} {n : Nat} {F p : List (List Int)} (hm : m.length = n) (hF : ∀ c ∈ F, holdsB m c = true) (hv : ∀ c ∈ F, U.Val n c) (hp : ∀ c ∈ p, U.Val n c) :
    ∀ i, i < (match firstNot F p with | some k => k | none => p.length) → holdsB m (p.getD i []) = true := by
  induction p generalizing F with
  | nil => intro i hi; simp [firstNot] at hi
  | cons c r ih =>
    intro i hi
    unfold firstNot at hi
    by_cases hc : Imp F c
    · rw [if_pos hc] at hi
      have h1 := imp_sound hm hF hv (hp c (by simp)) hc
      cases i with
      | zero => exact h1
      | succ i =>
        have h2 := ih (F := F ++ [c]) (fun d hd => (List.mem_append.1 hd).elim (hF d) fun h => by simp at h; rw [h]; exact h1) (fun d hd => (List.mem_append.1 hd).elim (hv d) fun h => by simp at h; rw [h]; exact hp c (by simp)) (fun d hd => hp d (by simp [hd])) i (by
          cases hf : firstNot (F ++ [c]) r with
          | none => rw [hf] at hi; simp at hi ⊢; omega
          | some k => rw [hf] at hi; simp at hi ⊢; omega)
        simpa using h2
    · rw [if_neg hc] at hi
      simp at hi
/-- More clauses, a proof as long at least. -/
theorem firstNot_mono {F G p : List (List Int)} (h : ∀ c ∈ F, c ∈ G) (hn : firstNot F p = none) : firstNot G p = none := by
  induction p generalizing F G with
  | nil => rfl
  | cons c r ih =>
    unfold firstNot at hn ⊢
    by_cases hc : Imp F c
    · rw [if_pos hc] at hn
      rw [if_pos (hc.mono h fun _ hx => hx)]
      have h1 : firstNot (F ++ [c]) r = none := by simpa using hn
      rw [ih (fun d hd => (List.mem_append.1 hd).elim (fun h2 => List.mem_append_left _ (h d h2)) fun h2 => List.mem_append_right _ h2) h1]
      rfl
    · rw [if_neg hc] at hn
      cases hn
/-- Implied clauses before a proof. -/
theorem firstNot_before {F before p : List (List Int)} (hb : ∀ c ∈ before, Imp F c) (hn : firstNot F p = none) : firstNot F (before ++ p) = none := by
  induction before generalizing F with
  | nil => exact hn
  | cons b r ih =>
    rw [List.cons_append]
    unfold firstNot
    rw [if_pos (hb b (by simp)), ih (F := F ++ [b]) (fun c hc => (hb c (by simp [hc])).mono (fun _ ha => List.mem_append_left _ ha) fun _ hx => hx) (firstNot_mono (fun _ hc => List.mem_append_left _ hc) hn)]
    rfl
/-- What the index says. -/
theorem firstNot_spec (F p : List (List Int)) :
    (firstNot F p = none ∧ ∀ j, j < p.length → Imp (F ++ p.take j) (p.getD j [])) ∨
    ∃ i, firstNot F p = some i ∧ i < p.length ∧ (∀ j, j < i → Imp (F ++ p.take j) (p.getD j [])) ∧ ¬ Imp (F ++ p.take i) (p.getD i []) := by
  induction p generalizing F with
  | nil => exact .inl ⟨rfl, fun j hj => absurd hj (Nat.not_lt_zero _)⟩
  | cons c r ih =>
    have e : ∀ k, F ++ (c :: r).take (k + 1) = (F ++ [c]) ++ r.take k := fun k => by simp
    unfold firstNot
    by_cases hc : Imp F c
    · rw [if_pos hc]
      rcases ih (F ++ [c]) with ⟨h1, h2⟩ | ⟨i, h1, h2, h3, h4⟩
      · refine .inl ⟨by rw [h1]; rfl, fun j hj => ?_⟩
        cases j with
        | zero => simpa using hc
        | succ k => rw [e k]; simpa using h2 k (by simpa using hj)
      · refine .inr ⟨i + 1, by rw [h1]; rfl, by simpa using h2, fun j hj => ?_, ?_⟩
        · cases j with
          | zero => simpa using hc
          | succ k => rw [e k]; simpa using h3 k (by omega)
        · rw [e i]; simpa using h4
    · rw [if_neg hc]
      exact .inr ⟨0, rfl, by simp, fun j hj => absurd hj (Nat.not_lt_zero _), by simpa using hc⟩
/-- The index from what it says. -/
theorem firstNot_at {F p : List (List Int)} {i : Nat} (hi : i < p.length) (h1 : ∀ j, j < i → Imp (F ++ p.take j) (p.getD j [])) (h2 : ¬ Imp (F ++ p.take i) (p.getD i [])) : firstNot F p = some i := by
  rcases firstNot_spec F p with ⟨_, h⟩ | ⟨k, h, _, h3, h4⟩
  · exact absurd (h i hi) h2
  · rw [h]
    congr 1
    rcases Nat.lt_trichotomy k i with hk | hk | hk
    · exact absurd (h1 k hk) h4
    · exact hk
    · exact absurd (h3 i hk) h2
theorem firstNot_none {F p : List (List Int)} (h1 : ∀ j, j < p.length → Imp (F ++ p.take j) (p.getD j [])) : firstNot F p = none := by
  rcases firstNot_spec F p with ⟨h, _⟩ | ⟨k, _, h, _, h4⟩
  · exact h
  · exact absurd (h1 k h) h4
/-- The clauses up to the index have the same. -/
theorem firstNot_take {F p : List (List Int)} {i : Nat} (h : firstNot F p = some i) : firstNot F (p.take (i + 1)) = some i := by
  have hi := firstNot_lt h
  rcases firstNot_spec F p with ⟨h1, _⟩ | ⟨k, h1, _, h3, h4⟩
  · rw [h1] at h; cases h
  · rw [h] at h1
    cases h1
    have ht : ∀ j, j ≤ i → (p.take (i + 1)).take j = p.take j := fun j hj => by rw [List.take_take]; congr 1; omega
    have hg : ∀ j, j ≤ i → (p.take (i + 1)).getD j [] = p.getD j [] := fun j hj => by simp [List.getD, show j < i + 1 by omega]
    refine firstNot_at (by simp; omega) (fun j hj => ?_) ?_
    · rw [ht j (by omega), hg j (by omega)]; exact h3 j hj
    · rw [ht i (Nat.le_refl _), hg i (Nat.le_refl _)]; exact h4
/-- What Check answers, for a valid formula and valid clauses. -/
noncomputable def checkR (F p : List (List Int)) : Int :=
  match firstNot F p with
  | some i => i
  | none => if p.getLast? = some [] then -1 else p.length
end L
end Go.Proofs.YtfhodbnhaaiceaaDoor
end

/- The examples of the chapter on proofs, plain; what Implied and Check answer. -/
section
namespace Go.Proofs.YtfhodbnhaaiceaaDoor
open Go.RowKit Go.Conc
namespace L
open K

def fourL : List (List Int) := [[1, 2], [1, -2], [-1, 2], [-1, -2]]
def gL : List (List Int) := [[1, 2], [1, -2], [-1, 2]]
/-- One step of propagation in a clause of two literals. -/
theorem der_two {F : List (List Int)} {A : List Int} {a b : Int} (h : [a, b] ∈ F) (hd : U.Der F A (-a)) : U.Der F A b :=
  .unit h (by simp) fun y hy hne => by
    simp at hy
    rcases hy with rfl | rfl
    · exact hd
    · exact absurd rfl hne
theorem der_two' {F : List (List Int)} {A : List Int} {a b : Int} (h : [a, b] ∈ F) (hd : U.Der F A (-b)) : U.Der F A a :=
  .unit h (by simp) fun y hy hne => by
    simp at hy
    rcases hy with rfl | rfl
    · exact absurd rfl hne
    · exact hd
theorem bad_two {F : List (List Int)} {A : List Int} {a b : Int} (h : [a, b] ∈ F) (h1 : U.Der F A (-a)) (h2 : U.Der F A (-b)) : U.Bad F A :=
  .inr ⟨_, h, fun y hy => by
    simp at hy
    rcases hy with rfl | rfl
    · exact h1
    · exact h2⟩
theorem der_one {F : List (List Int)} {A : List Int} {a : Int} (h : [a] ∈ F) : U.Der F A a :=
  .unit h (by simp) fun y hy hne => by simp at hy; exact absurd hy hne
theorem imp_four_1 : Imp fourL [1] := by
  have a : U.Der fourL (negL [1]) (-1) := .assume (by simp [negL])
  exact bad_two (a := 1) (b := -2) (by simp [fourL]) a (der_two (a := 1) (by simp [fourL]) a)
theorem not_four_nil : ¬ Imp fourL [] := by
  refine U.Closed.good (T := fun _ => False) ⟨by simp [negL], by simp, ?_⟩
  intro c hc
  right
  simp [fourL] at hc
  rcases hc with rfl | rfl | rfl | rfl
  · exact ⟨1, 2, by simp⟩
  · exact ⟨1, -2, by simp⟩
  · exact ⟨-1, 2, by simp⟩
  · exact ⟨-1, -2, by simp⟩
theorem imp_four1_nil : Imp (fourL ++ [[1]]) [] := by
  have a : U.Der (fourL ++ [[1]]) (negL []) 1 := der_one (by simp [fourL])
  have b : U.Der (fourL ++ [[1]]) (negL []) 2 := der_two (a := -1) (by simp [fourL]) (by simpa using a)
  exact bad_two (a := -1) (b := -2) (by simp [fourL]) (by simpa using a) (by simpa using b)
theorem closed_g {F : List (List Int)} {A : List Int} (hF : ∀ c ∈ F, c ∈ gL ++ [[1]]) (hA : ∀ x ∈ A, x = 1) : ¬ U.Bad F A := by
  refine U.Closed.good (T := fun x => x = 1 ∨ x = 2) ⟨fun x hx => .inl (hA x hx), fun x hx => by omega, ?_⟩
  intro c hc
  have h := hF c hc
  left
  simp [gL] at h
  rcases h with rfl | rfl | rfl | rfl
  · exact ⟨1, by simp⟩
  · exact ⟨1, by simp⟩
  · exact ⟨2, by simp⟩
  · exact ⟨1, by simp⟩
theorem not_g_neg : ¬ Imp gL [-1] := closed_g (fun _ h => List.mem_append_left _ h) (by simp [negL])
theorem imp_g_taut : Imp gL [1, -1] := imp_taut (x := 1) (by simp) (by simp)
theorem imp_g_2 : Imp gL [2] := by
  have a : U.Der gL (negL [2]) (-2) := .assume (by simp [negL])
  have b : U.Der gL (negL [2]) 1 := der_two' (b := 2) (by simp [gL]) a
  exact bad_two (a := -1) (b := 2) (by simp [gL]) (by simpa using b) a
theorem imp_g_1 : Imp gL [1] := by
  have a : U.Der gL (negL [1]) (-1) := .assume (by simp [negL])
  exact bad_two (a := 1) (b := -2) (by simp [gL]) a (der_two (a := 1) (by simp [gL]) a)
theorem not_g1_nil : ¬ Imp (gL ++ [[1]]) [] := closed_g (fun _ h => h) (by simp [negL])

open Classical in
/-- What Implied answers. -/
noncomputable def impliedR (n : Int) (F : List (List Int)) (c : List Int) : Bool × Int :=
  if checkF n F ≠ 0 then (false, checkF n F) else if checkE n c ≠ 0 then (false, checkE n c) else (decide (Imp F c), 0)
/-- What Check answers. -/
noncomputable def checkA (n : Int) (F p : List (List Int)) : Int × Int :=
  if checkF n F ≠ 0 then (0, checkF n F) else if firstE n p ≠ 0 then (0, firstE n p) else (checkR F p, 0)
theorem checkA_known : checkA 2 fourL [[1], []] = (-1, 0) := by
  have h1 : firstNot fourL [[1], []] = none := by
    unfold firstNot
    rw [if_pos imp_four_1]
    unfold firstNot
    rw [if_pos imp_four1_nil]
    rfl
  have h2 : checkF 2 fourL = 0 := by decide
  have h3 : firstE 2 [[1], []] = 0 := by decide
  unfold checkA
  rw [if_neg (by simp [h2]), if_neg (by simp [h3])]
  unfold checkR
  rw [h1]
  rfl
end L
end Go.Proofs.YtfhodbnhaaiceaaDoor
end

/- Contracts of rup's fail and imply. -/
section
namespace Go.Proofs.YtfhodbnhaaiceaaDoor
open Go.RowKit RA
namespace L
open K
set_option maxRecDepth 100000

set_option maxHeartbeats 4000000 in
theorem fail_any {w0 W : World} {bp bq bm m N : Nat} {v : Value} {G : List (List Int)} {S : List UInt8 → Bool} (h : Prem w0 W bp bq bm m v G N S) (h0 : checkF m G = 0) (hG : G.length ≤ 1000000) (A : List Int) (hA : U.Val m A) (u : Value) (hu : Ints W u A) :
    Calls Tryd.prog 53 #[.pointer (some ⟨bp, 0, none⟩), u] W fun e W' => (∃ b : Bool, e = .returned (.bool b) ∧ (b = true ↔ U.Bad G A)) ∧ Below W.heap.size W W' := by
  obtain ⟨hmm, hcl, hval⟩ := checkF_ok h0
  have hcu := checkU_valid h0 hA
  have hU := fun X (hb : Below W.heap.size W X) => punits_any m v G u A X (by unfold I64; omega) (fun c hc => val_i64 hmm (hval c hc)) ((h.below hb).lists hG) (val_i64 hmm hA) (hu.below hb)
  obtain ⟨a1, c1, rfl, _⟩ := id hu
  have HU := Lib.hid (hU W (Below.refl _ _))
  have HCU := Lib.hid hcu
  have d0 := h.box.cell 0
  have e0 := h.part.cell 0
  have e1 := h.part.cell 1
  simp only [List.getElem?_toArray, List.getElem?_cons_zero, List.getElem?_cons_succ] at d0 e0 e1
  have HP := Lib.hid h
  clear hU hcu h hu h0
  obtain ⟨pv, cv, rfl, _⟩ := HP.out.lists hG
  go_enter Tryd.func53, Tryd.ntmps53
  go_wp2
  go_loopw [1, 5, 6, 7, 8, 9, 10] (fun k mo d i _ _ _ wr => (k = .slice a1 A.length c1 ∧ mo = .int .i64 (-1) ∧ d = .int .i64 0 ∧ i = .int .i64 0 ∧ wr = W) ∨ (¬ U.Bad G A ∧ d = .int .i64 1 ∧ i = .int .i64 0 ∧ Below W.heap.size W wr)) (fun _ _ d _ _ _ _ _ => 1 - (intOf d).toNat)
  case atStart => exact .inl ⟨rfl, rfl, rfl, rfl, rfl⟩
  case round =>
    rcases hrel with ⟨rfl, rfl, rfl, rfl, rfl⟩ | ⟨hnb, rfl, rfl, hb⟩
    · go_wp2_with fail
      refine HU.out.mono ?_
      rintro e w1 ⟨r, rfl, hup, hb1⟩
      refine Hid.out ?_
      refine Lib.hid ?_
      have hq := HP.out.below hb1
      have d0' := hq.box.cell 0
      simp only [List.getElem?_toArray, List.getElem?_cons_zero] at d0'
      have hr0 := require_ok w1
      rcases hup with ⟨hx, _⟩ | ⟨_, hx, rfl⟩ | ⟨_, l, vl, hx, rfl, hol⟩
      · exact absurd HCU.out hx
      · have hbad : U.Bad G A := Classical.byContradiction fun hn => by rw [U.unitsOf_good hn] at hx; cases hx
        have HB := Lib.hid hbad
        have HB1 := Lib.hid hb1
        clear hx hbad hb1 hq
        go_wp2_with fail
        refine hr0.mono ?_
        rintro e w1 ⟨rfl, rfl⟩
        clear hr0
        go_wp2
        go_ret
        exact ⟨⟨_, rfl, by simpa using HB.out⟩, HB1.out⟩
      · have hgood : ¬ U.Bad G A := fun hn => by simp only [Int.toNat_natCast] at hx; rw [U.unitsOf_bad hn] at hx; cases hx
        have HB := Lib.hid hgood
        have HB1 := Lib.hid hb1
        obtain ⟨pl, cl, rfl⟩ := owns_shape hol
        have hpos : (-1 : Int) < (l.length : Int) := by omega
        clear hx hgood hb1 hq hol
        go_wp2_with fail
        refine hr0.mono ?_
        rintro e w1 ⟨rfl, rfl⟩
        clear hr0
        go_wp2
        go_roundw
        case rel => exact .inr ⟨HB.out, rfl, rfl, HB1.out⟩
        case measure => simp [intOf]
    · have hq := HP.out.below hb
      have d0' := hq.box.cell 0
      simp only [List.getElem?_toArray, List.getElem?_cons_zero] at d0'
      have HB := Lib.hid hnb
      have HB1 := Lib.hid hb
      clear hq hnb hb
      go_wp2
      go_ret
      exact ⟨⟨_, rfl, by simpa using HB.out⟩, HB1.out⟩

theorem negL_len (c : List Int) : (negL c).length = c.length := by simp [negL]
theorem neg_row {c xs : List Int} (hl : xs.length = c.length) (h : ∀ j, j < c.length → xs.getD j 0 = -(c.getD j 0)) : xs = negL c := by
  apply List.ext_getElem (by rw [hl, negL_len])
  intro j h1 h2
  have := h j (by omega)
  simp only [List.getD_eq_getElem?_getD, List.getElem?_eq_getElem h1, List.getElem?_eq_getElem (show j < c.length by omega), Option.getD_some] at this
  rw [this]
  simp [negL]

set_option maxHeartbeats 4000000 in
theorem imply_any {w0 W : World} {bp bq bm m N : Nat} {v : Value} {G : List (List Int)} {S : List UInt8 → Bool} (h : Prem w0 W bp bq bm m v G N S) (h0 : checkF m G = 0) (hG : G.length ≤ 1000000) (c : List Int) (hc : U.Val m c) (vc : Value) (hv : Ints W vc c) (hlen : c.length ≤ 1000000) :
    Calls Tryd.prog 31 #[.pointer (some ⟨bp, 0, none⟩), vc] W fun e W' => (∃ b : Bool, e = .returned (.bool b) ∧ (b = true ↔ Imp G c)) ∧ Below W.heap.size W W' := by
  obtain ⟨hmm, _, _⟩ := checkF_ok h0
  have hci := val_i64 hmm hc
  have hFA := fun X (hb : Below W.heap.size W X) (u : Value) (hu : Ints X u (negL c)) => fail_any (h.below hb) h0 hG (negL c) (negL_val hc) u hu
  obtain ⟨a1, c1, rfl, hcap, _, hcell⟩ := id hv
  have HFA := Lib.hid hFA
  have HCI := Lib.hid hci
  have HVC := Lib.hid hc
  have HCE := Lib.hid hcell
  obtain ⟨i0, hi, hz0, hz1, hz2⟩ := info_parts info3
  clear hFA hci hcell h hv hc h0
  go_enter Tryd.func31, Tryd.ntmps31
  go_wp2_with (at_make; refine wpList_make_full _ rfl _ _ 23 rfl W.heap.size 3 i0 (.int .i64 0) 1 Tryd.underlying23 hi hz0 hz1 .i64 .i64 _ _ c.length rfl rfl rfl rfl (by rw [hz2]; omega) (by unfold maxLen; omega) (Nat.le_refl _) ?_)
  intro w1 hown hgrow
  have hb := (Below.refl W.heap.size W).grown hgrow (Nat.le_refl _) (fun k h => by cases h)
  rw [toList_madeCells_one, ← List.map_replicate (f := Value.int .i64) (a := 0)] at hown
  clear hgrow
  go_wp2
  go_loopw [6, 7, 13] (fun _ _ i wr => ∃ (k : Nat) (xs : List Int), k ≤ c.length ∧ i = .int .i64 k ∧ xs.length = c.length ∧ (∀ j, j < k → xs.getD j 0 = -(c.getD j 0)) ∧ wr.ownsRow W.heap.size 3 1 (.slice (some ⟨W.heap.size, 0, none⟩) c.length c.length) c.length (xs.map (Value.int .i64)) ∧ Below W.heap.size W wr) (fun _ _ i _ => c.length - (intOf i).toNat)
  case atStart => exact ⟨0, List.replicate c.length 0, Nat.zero_le _, rfl, by simp, fun j hj => absurd hj (Nat.not_lt_zero _), by simpa using hown, hb⟩
  case round =>
    clear hown hb
    obtain ⟨k, xs, hk, rfl, hxs, hval, hown, hb⟩ := hrel
    have HV := Lib.hid hval
    have HXS := Lib.hid hxs
    clear hval
    by_cases hlt : k < c.length
    · obtain ⟨b1, o1, rfl, e1⟩ := HCE.out (by omega)
      have d1 := (hb.cell (p := ⟨b1, o1 + k, none⟩) (World.block_lt_of_cell? _ _ (e1 k hlt))).trans (e1 k hlt)
      have hxi := HCI.out (c.getD k 0) (by rw [List.getD_eq_getElem?_getD, List.getElem?_eq_getElem hlt]; exact List.getElem_mem hlt)
      obtain ⟨x, hx⟩ : ∃ x, c.getD k 0 = x := ⟨_, rfl⟩
      rw [hx] at d1 hxi
      have HX := Lib.hid hx
      have dS := hown.cellAt k (by omega)
      have fS := hown.frozenAt k
      have hkb : k < xs.length := by omega
      rw [List.getElem?_map, List.getElem?_eq_getElem hkb] at dS
      generalize xs[k] = z at dS
      have HW : Hid (wrap64 (-x) = -x) := Lib.hid (by
        have := (HVC.out x (by rw [← hx, List.getD_eq_getElem?_getD, List.getElem?_eq_getElem hlt]; exact List.getElem_mem hlt)).2
        unfold wrap64
        omega)
      have HO := Lib.hid hown
      have HB := Lib.hid hb
      clear hown hxs e1 hb hx hkb
      go_wp2
      go_roundw
      case rel =>
        refine ⟨k + 1, xs.set k (-x), by omega, by go_num, by simpa using HXS.out, fun j hj => ?_, ?_, HB.out.setCell (Nat.le_refl _) _⟩
        · by_cases hjk : j = k
          · subst hjk
            rw [HX.out]
            have := HXS.out
            simp [List.getD, show j < xs.length by omega]
          · have := HV.out j (by omega)
            simp only [List.getD_eq_getElem?_getD, List.getElem?_set, show ¬ k = j by omega, if_false] at this ⊢
            exact this
        · have := (HO.out.stored k (.int .i64 (-x))).1
          rw [HW.out]
          rwa [← List.map_set] at this
      case measure => simp [intOf]; omega
    · obtain rfl : k = c.length := by omega
      have hrow := neg_row hxs HV.out
      have hown2 : OwnI wr W.heap.size (.slice (some ⟨W.heap.size, 0, none⟩) c.length c.length) (negL c) := by
        unfold OwnI; rw [negL_len, ← hrow]; exact hown
      have hca := HFA.out wr hb _ (hown2.ints (by rw [negL_len]; omega))
      have HB := Lib.hid hb
      clear hown hxs hrow hown2 hb
      go_wp2_with fail
      refine hca.mono ?_
      rintro e w2 ⟨⟨b, rfl, hbb⟩, hb2⟩
      have HB2 := Lib.hid (HB.out.trans (hb2.mono HB.out.size))
      have HBB := Lib.hid hbb
      clear hb2 hca hbb
      go_wp2
      go_ret
      exact ⟨⟨b, rfl, HBB.out⟩, HB2.out⟩
end L
end Go.Proofs.YtfhodbnhaaiceaaDoor
end
