/- Regions that draw their order and whose operations may make memory: one proof for every order. Each operation is specified by what it needs (the values of those that it waits for) and what it gives; what is given must stay true in every later world. Own. -/
import Derived.Orders
import Derived.Below
namespace Go.Proofs.YtmplmpiljjilnaaDoor
open Go Go.RowKit
namespace Loose
variable {P : Program} {ops : Array Oper} {C : World → Prop} {le : World → World → Prop} {φ : Nat → Value → World → Prop}

/-- What comes of one operation: a value and a world for which 'post' holds. -/
def At (P : Program) (o : Oper) (a : Act) (w : World) (post : Value → World → Prop) : Prop :=
  match (execOp a.eval o).run P w with
  | .ok (.value v) w' => post v w'
  | .ok .skip w' => post undef w'
  | .ok (.enter f args) w' => Calls P f args w' fun e w'' => ∃ v, e = .returned v ∧ post v w''
  | _ => False
theorem At.wp {o : Oper} {a : Act} {w : World} {post : Value → World → Prop} {Q : Exit → Act → World → Prop} (h : At P o a w post) : o.wp P a w (fun a' w' => ∃ v, a' = a.put o.dst v ∧ post v w') Q := by
  unfold At at h
  unfold Oper.wp
  generalize (execOp a.eval o).run P w = r at *
  cases r with
  | ok n w' =>
    cases n with
    | value v => exact ⟨v, rfl, h⟩
    | skip => exact ⟨undef, rfl, h⟩
    | enter f args => exact Calls.mono h (fun e w'' ⟨v, he, hp⟩ => by subst he; exact ⟨v, rfl, hp⟩)
    | _ => exact h.elim
  | halt x w' => exact h.elim

/-- The frame's slots that no operation of the region writes are as they were. -/
def Same (ops : Array Oper) (a0 a : Act) : Prop := ∀ t, (∀ (j : Nat) (oj : Oper), ops[j]? = some oj → oj.dst ≠ some t) → a.tmps.getD t undef = a0.tmps.getD t undef

structure Spec (P : Program) (ops : Array Oper) (C : World → Prop) (le : World → World → Prop) (φ : Nat → Value → World → Prop) (a0 : Act) : Prop where
  refl : ∀ w, le w w
  trans : ∀ {w w' w''}, le w w' → le w' w'' → le w w''
  stab : ∀ i v w w', φ i v w → C w → C w' → le w w' → φ i v w'
  step : ∀ (i : Nat) (o : Oper), ops[i]? = some o → ∀ a w, C w → Same ops a0 a →
    (∀ e ∈ o.after, Region.binds .any e = true → ∀ (oj : Oper) (d : Tmp), ops[e.on]? = some oj → oj.dst = some d → φ e.on (a.tmps.getD d undef) w) →
    (Region.wanted o (yielded ops a.tmps) = true → At P o a w fun v w' => φ i v w' ∧ C w' ∧ le w w') ∧ (Region.wanted o (yielded ops a.tmps) = false → φ i undef w)

/-- The edges lead back, and no two operations write one slot. -/
def okB (ops : Array Oper) : Bool :=
  (List.range ops.size).all fun i => match ops[i]? with
    | none => true
    | some o => (o.after.all fun e => decide (e.on < i)) && (List.range i).all fun j => match ops[j]? with
      | none => true
      | some oj => oj.dst == none || oj.dst != o.dst
theorem ok_after (h : okB ops = true) {i : Nat} {o : Oper} (ho : ops[i]? = some o) : ∀ e ∈ o.after, e.on < i := by
  have hi : i < ops.size := by
    by_cases hi : i < ops.size
    · exact hi
    · rw [Array.getElem?_eq_none (by omega)] at ho; cases ho
  unfold okB at h
  rw [List.all_eq_true] at h
  have h1 := h i (List.mem_range.2 hi)
  rw [ho] at h1
  simp only [Bool.and_eq_true, Array.all_eq_true_iff_forall_mem] at h1
  exact fun e he => by simpa using h1.1 e he
theorem ok_dst (h : okB ops = true) {i j : Nat} {o oj : Oper} {d : Tmp} (ho : ops[i]? = some o) (hj : ops[j]? = some oj) (hd : o.dst = some d) (hdj : oj.dst = some d) : i = j := by
  have lt : ∀ {i j : Nat} {o oj : Oper}, ops[i]? = some o → ops[j]? = some oj → o.dst = some d → oj.dst = some d → ¬ j < i := by
    intro i j o oj ho hj hd hdj hlt
    have hi : i < ops.size := by
      by_cases hi : i < ops.size
      · exact hi
      · rw [Array.getElem?_eq_none (by omega)] at ho; cases ho
    unfold okB at h
    rw [List.all_eq_true] at h
    have h1 := h i (List.mem_range.2 hi)
    rw [ho] at h1
    simp only [Bool.and_eq_true] at h1
    have h2 := h1.2
    rw [List.all_eq_true] at h2
    have h3 := h2 j (List.mem_range.2 hlt)
    rw [hj] at h3
    simp [hd, hdj] at h3
  have a := lt ho hj hd hdj
  have b := lt hj ho hdj hd
  omega

theorem put_at (a : Act) (d t : Tmp) (v : Value) (hd : d < a.tmps.size) : (a.put (some d) v).tmps.getD t undef = if t = d then v else a.tmps.getD t undef := by
  unfold Act.put
  simp only
  by_cases h : t = d
  · subst h; simp [hd]
  · rw [if_neg h]
    have h' : ¬ d = t := fun e => h e.symm
    simp [h']
theorem put_size (a : Act) (d : Option Tmp) (v : Value) : (a.put d v).tmps.size = a.tmps.size := by
  unfold Act.put; split <;> simp
theorem put_defers (a : Act) (d : Option Tmp) (v : Value) : (a.put d v).defers = a.defers := by
  unfold Act.put; split <;> rfl

/-- What holds while some of the operations have come up. -/
structure Inv (ops : Array Oper) (C : World → Prop) (φ : Nat → Value → World → Prop) (a0 : Act) (listed : Array Bool) (a : Act) (w : World) : Prop where
  world : C w
  size : listed.size = ops.size
  tsize : a.tmps.size = a0.tmps.size
  defers : a.defers = a0.defers
  same : Same ops a0 a
  vals : ∀ (i : Nat) (o : Oper) (d : Tmp), ops[i]? = some o → listed.getD i false = true → o.dst = some d → φ i (a.tmps.getD d undef) w
  nods : ∀ (i : Nat) (o : Oper), ops[i]? = some o → listed.getD i false = true → o.dst = none → ∃ v, φ i v w

variable {a0 : Act}
theorem Inv.next (hok : okB ops = true) (hdst : ∀ (i : Nat) (o : Oper) (d : Tmp), ops[i]? = some o → o.dst = some d → d < a0.tmps.size) (S : Spec P ops C le φ a0) {listed : Array Bool} {a : Act} {w w' : World} (h : Inv ops C φ a0 listed a w) {i : Nat} {o : Oper} (ho : ops[i]? = some o) {v : Value} (hφ : φ i v w') (hC : C w') (hle : le w w') : Inv ops C φ a0 (listed.setIfInBounds i true) (a.put o.dst v) w' := by
  refine ⟨hC, by simp [h.size], by rw [put_size, h.tsize], by rw [put_defers, h.defers], fun t ht => ?_, fun j oj d hj hl hd => ?_, fun j oj hj hl hd => ?_⟩
  · cases hd : o.dst with
    | none => exact h.same t ht
    | some d =>
      rw [put_at _ _ _ _ (by rw [h.tsize]; exact hdst i o d ho hd), if_neg (fun e => ht i o ho (by rw [hd, e]))]
      exact h.same t ht
  · by_cases hij : j = i
    · subst hij
      rw [ho] at hj
      obtain rfl := Option.some.inj hj
      rw [hd, put_at _ _ _ _ (by rw [h.tsize]; exact hdst j o d ho hd), if_pos rfl]
      exact hφ
    · have hl' : listed.getD j false = true := by
        have hij' : ¬ i = j := fun e => hij e.symm
        simpa [Array.getElem?_setIfInBounds, hij'] using hl
      have hold := S.stab j _ w w' (h.vals j oj d hj hl' hd) h.world hC hle
      cases hdo : o.dst with
      | none => exact hold
      | some d' =>
        rw [put_at _ _ _ _ (by rw [h.tsize]; exact hdst i o d' ho hdo), if_neg (fun e => hij (ok_dst hok hj ho hd (by rw [hdo, e])))]
        exact hold
  · by_cases hij : j = i
    · subst hij; exact ⟨v, hφ⟩
    · have hl' : listed.getD j false = true := by
        have hij' : ¬ i = j := fun e => hij e.symm
        simpa [Array.getElem?_setIfInBounds, hij'] using hl
      obtain ⟨u, hu⟩ := h.nods j oj hj hl' hd
      exact ⟨u, S.stab j u w w' hu h.world hC hle⟩

/-- If nothing may come up, all has. -/
theorem all_listed (hok : okB ops = true) {listed : Array Bool} (hs : listed.size = ops.size) (hr : Region.ready .any ops listed = []) : ∀ (i : Nat) (o : Oper), ops[i]? = some o → listed.getD i false = true := by
  intro i
  induction i using Nat.strongRecOn with
  | _ i ih =>
    intro o ho
    have hi : i < listed.size := by
      rw [hs]
      by_cases hi : i < ops.size
      · exact hi
      · rw [Array.getElem?_eq_none (by omega)] at ho; cases ho
    by_cases hl : listed.getD i false = true
    · exact hl
    · exfalso
      have : i ∈ Region.ready .any ops listed := by
        rw [mem_ready]
        refine ⟨?_, o, ho, fun e he _ => ?_⟩
        · simp [hi] at hl ⊢; exact hl
        · have hlt := ok_after hok ho e he
          have hex : e.on < ops.size := by rw [← hs]; omega
          exact ih e.on hlt _ (Array.getElem?_eq_getElem hex)
      rw [hr] at this; cases this

theorem count_set {l : List Bool} : ∀ {i : Nat}, l[i]? = some false → (l.set i true).countP (· == false) + 1 = l.countP (· == false) := by
  induction l with
  | nil => intro i h; simp at h
  | cons b l ih =>
    intro i h
    cases i with
    | zero => simp at h; subst h; simp
    | succ i =>
      have := ih (i := i) (by simpa using h)
      simp only [List.set_cons_succ, List.countP_cons]
      omega

theorem any_of (hok : okB ops = true) (hdst : ∀ (i : Nat) (o : Oper) (d : Tmp), ops[i]? = some o → o.dst = some d → d < a0.tmps.size) (S : Spec P ops C le φ a0) {Q : Exit → Act → World → Prop}
    (fin : ∀ a w, Inv ops C φ a0 (Array.replicate ops.size true) a w → Q .normal a w) :
    ∀ (fuel : Nat) (listed : Array Bool) (a : Act) (w : World), Inv ops C φ a0 listed a w → listed.toList.countP (· == false) ≤ fuel → wpAny P .any ops Q fuel listed a w := by
  have done : ∀ (listed : Array Bool) (a : Act) (w : World), Inv ops C φ a0 listed a w → (∀ (i : Nat) (o : Oper), ops[i]? = some o → listed.getD i false = true) → Q .normal a w := fun listed a w h hall =>
    fin a w ⟨h.world, by simp, h.tsize, h.defers, h.same, fun i o d ho _ hd => h.vals i o d ho (hall i o ho) hd, fun i o ho _ hd => h.nods i o ho (hall i o ho) hd⟩
  have ready_unl : ∀ {listed : Array Bool} {i : Nat}, i ∈ Region.ready .any ops listed → listed.toList[i]? = some false := fun {listed i} hi => by
    have := (mem_ready.1 hi).1
    by_cases h : i < listed.size
    · simp [h] at this
      simp [h, this]
    · simp [Array.getElem?_eq_none (by omega : listed.size ≤ i)] at this
  intro fuel
  induction fuel with
  | zero =>
    intro listed a w h hc
    have hnil : Region.ready .any ops listed = [] := by
      cases hr : Region.ready .any ops listed with
      | nil => rfl
      | cons x xs =>
        exfalso
        have := count_set (ready_unl (i := x) (by rw [hr]; exact List.mem_cons_self ..))
        omega
    exact ⟨hnil, done listed a w h (all_listed hok h.size hnil)⟩
  | succ fuel ih =>
    intro listed a w h hc
    refine ⟨fun hnil => done listed a w h (all_listed hok h.size hnil), fun i hi => ?_⟩
    obtain ⟨hun, o, ho, hall⟩ := mem_ready.1 hi
    have hcount : (listed.setIfInBounds i true).toList.countP (· == false) ≤ fuel := by
      have := count_set (ready_unl hi)
      rw [Array.toList_setIfInBounds]; omega
    obtain ⟨s1, s2⟩ := S.step i o ho a w h.world h.same (fun e he hb oj d hj hd => h.vals e.on oj d hj (hall e he hb) hd)
    unfold wpOp
    rw [ho]
    simp only
    split
    · next hw =>
      refine .inl (Oper.wp_mono (fun a' w' ⟨v, ha, h1, h2, h3⟩ => ?_) (s1 hw).wp)
      subst ha
      exact ih _ _ _ (h.next hok hdst S ho h1 h2 h3) hcount
    · next hw =>
      exact ih _ _ _ (h.next hok hdst S ho (s2 (by simpa using hw)) h.world (S.refl w)) hcount

/-- The frame with these values in the operations' slots. -/
def puts : List Oper → (Nat → Value) → Nat → Act → Act
  | [], _, _, a => a
  | o :: l, vs, k, a => puts l vs (k + 1) (a.put o.dst (vs k))
theorem puts_size : ∀ (l : List Oper) (vs : Nat → Value) (k : Nat) (a : Act), (puts l vs k a).tmps.size = a.tmps.size
  | [], _, _, _ => rfl
  | o :: l, vs, k, a => by rw [puts, puts_size l, put_size]
theorem puts_defers : ∀ (l : List Oper) (vs : Nat → Value) (k : Nat) (a : Act), (puts l vs k a).defers = a.defers
  | [], _, _, _ => rfl
  | o :: l, vs, k, a => by rw [puts, puts_defers l, put_defers]
theorem puts_other : ∀ (l : List Oper) (vs : Nat → Value) (k : Nat) (a : Act) (t : Tmp), (∀ o ∈ l, o.dst ≠ some t) → (∀ o ∈ l, ∀ d, o.dst = some d → d < a.tmps.size) → (puts l vs k a).tmps.getD t undef = a.tmps.getD t undef
  | [], _, _, _, _, _, _ => rfl
  | o :: l, vs, k, a, t, h, hd => by
    rw [puts, puts_other l _ _ _ t (fun o' h' => h o' (List.mem_cons_of_mem _ h')) (fun o' h' d e => by rw [put_size]; exact hd o' (List.mem_cons_of_mem _ h') d e)]
    cases ho : o.dst with
    | none => rfl
    | some d => rw [put_at _ _ _ _ (hd o (List.mem_cons_self ..) d ho), if_neg (fun e => h o (List.mem_cons_self ..) (by rw [ho, e]))]
theorem puts_at : ∀ (l : List Oper) (vs : Nat → Value) (k : Nat) (a : Act) (i : Nat) (o : Oper) (d : Tmp), l[i]? = some o → o.dst = some d → (∀ (j : Nat) (oj : Oper), l[j]? = some oj → oj.dst = some d → j = i) → (∀ o ∈ l, ∀ d, o.dst = some d → d < a.tmps.size) → (puts l vs k a).tmps.getD d undef = vs (k + i)
  | [], _, _, _, i, o, d, h, _, _, _ => by simp at h
  | p :: l, vs, k, a, 0, o, d, h, hd, hu, hb => by
    simp at h
    subst h
    rw [puts, puts_other l _ _ _ d (fun o' h' e => by
      obtain ⟨j, hj⟩ := List.getElem?_of_mem h'
      have := hu (j + 1) o' (by simpa using hj) e
      omega) (fun o' h' d e => by rw [put_size]; exact hb o' (List.mem_cons_of_mem _ h') d e), hd, put_at _ _ _ _ (hb p (List.mem_cons_self ..) d hd), if_pos rfl]
    rfl
  | p :: l, vs, k, a, i + 1, o, d, h, hd, hu, hb => by
    rw [puts, puts_at l vs (k + 1) _ i o d (by simpa using h) hd (fun j oj hj e => by have := hu (j + 1) oj (by simpa using hj) e; omega) (fun o' h' d e => by rw [put_size]; exact hb o' (List.mem_cons_of_mem _ h') d e)]
    congr 1; omega

theorem rep_false (n i : Nat) : (Array.replicate n false).getD i false = false := by
  by_cases h : i < n
  · simp [h]
  · simp [Array.getElem?_eq_none (by simp; omega : (Array.replicate n false).size ≤ i)]
/-- **One specification serves every order.** -/
theorem wp_region {id : Nat} {l : List Oper} {Q : Exit → Act → World → Prop} {w : World} (hm : P.follows .mixedOrders = true) (hok : okB l.toArray = true) (hdst : (l.all fun o => match o.dst with | none => true | some d => decide (d < a0.tmps.size)) = true)
    (S : Spec P l.toArray C le φ a0) (hC : C { w with drawn := w.drawn + 1 })
    (fin : ∀ (vs : Nat → Value) (w' : World), C w' → (∀ (i : Nat) (o : Oper), l[i]? = some o → φ i (vs i) w') → Q .normal (puts l vs 0 a0) w') : (Code.region id l.toArray true).wp P Q a0 w := by
  have hd : ∀ o ∈ l, ∀ d, o.dst = some d → d < a0.tmps.size := fun o ho d e => by
    rw [List.all_eq_true] at hdst
    have := hdst o ho
    rw [e] at this
    simpa using this
  have hd' : ∀ (i : Nat) (o : Oper) (d : Tmp), l.toArray[i]? = some o → o.dst = some d → d < a0.tmps.size := fun i o d ho e => hd o (List.mem_of_getElem? (by simpa using ho)) d e
  refine wp_region_any hm (any_of hok hd' S (fun a w' h => ?_) _ _ _ _ ⟨hC, by simp, rfl, rfl, fun _ _ => rfl, fun i o d _ hl _ => ?_, fun i o _ hl _ => ?_⟩ ?_)
  · have hall : ∀ (i : Nat) (o : Oper), l[i]? = some o → (Array.replicate l.toArray.size true).getD i false = true := fun i o ho => by
      have hi : i < l.length := by
        by_cases hi : i < l.length
        · exact hi
        · rw [List.getElem?_eq_none (by omega)] at ho; cases ho
      simp [hi]
    have hv : ∀ i : Nat, ∃ v, ∀ o : Oper, l[i]? = some o → φ i v w' ∧ ∀ d, o.dst = some d → v = a.tmps.getD d undef := fun i => by
      cases ho : l[i]? with
      | none => exact ⟨undef, fun o e => by cases e⟩
      | some o =>
        cases hdo : o.dst with
        | none =>
          obtain ⟨v, hv⟩ := h.nods i o (by simpa using ho) (hall i o ho) hdo
          exact ⟨v, fun o' e => by cases e; exact ⟨hv, fun d e => by rw [hdo] at e; cases e⟩⟩
        | some d => exact ⟨a.tmps.getD d undef, fun o' e => by cases e; exact ⟨h.vals i o d (by simpa using ho) (hall i o ho) hdo, fun d' e => by rw [hdo] at e; cases e; rfl⟩⟩
    obtain ⟨vs, hvs⟩ := Classical.axiomOfChoice hv
    have e : a = puts l vs 0 a0 := by
      have h1 : a.tmps.size = (puts l vs 0 a0).tmps.size := by rw [puts_size]; exact h.tsize
      have h2 : a.defers = (puts l vs 0 a0).defers := by rw [puts_defers]; exact h.defers
      have h3 : ∀ t, a.tmps.getD t undef = (puts l vs 0 a0).tmps.getD t undef := fun t => by
        by_cases ht : ∃ (i : Nat) (o : Oper), l[i]? = some o ∧ o.dst = some t
        · obtain ⟨i, o, ho, ht⟩ := ht
          rw [puts_at l vs 0 a0 i o t ho ht (fun j oj hj e => ok_dst hok (by simpa using hj) (by simpa using ho) e ht) hd, Nat.zero_add]
          exact ((hvs i o ho).2 t ht).symm
        · rw [puts_other l vs 0 a0 t (fun o ho e => by obtain ⟨i, hi⟩ := List.getElem?_of_mem ho; exact ht ⟨i, o, hi, e⟩) hd]
          exact h.same t (fun j oj hj e => ht ⟨j, oj, by simpa using hj, e⟩)
      obtain ⟨t1, d1⟩ := a
      generalize puts l vs 0 a0 = b at *
      obtain ⟨t2, d2⟩ := b
      simp only at h1 h2 h3
      subst h2
      congr 1
      refine Array.ext h1 fun i hi hi2 => ?_
      have := h3 i
      simpa [hi, hi2] using this
    rw [e]
    exact fin vs w' h.world (fun i o ho => (hvs i o ho).1)
  · rw [rep_false] at hl; cases hl
  · rw [rep_false] at hl; cases hl
  · have : (Array.replicate l.toArray.size false).toList.countP (· == false) ≤ (Array.replicate l.toArray.size false).toList.length := List.countP_le_length
    simpa using this

/-! For proofs of single steps. -/
def One (P : Program) (ops : Array Oper) (C : World → Prop) (le : World → World → Prop) (φ : Nat → Value → World → Prop) (a0 : Act) (i : Nat) (o : Oper) : Prop :=
  ∀ a w, C w → Same ops a0 a → (∀ e ∈ o.after, Region.binds .any e = true → ∀ (oj : Oper) (d : Tmp), ops[e.on]? = some oj → oj.dst = some d → φ e.on (a.tmps.getD d undef) w) →
    (Region.wanted o (yielded ops a.tmps) = true → At P o a w fun v w' => φ i v w' ∧ C w' ∧ le w w') ∧ (Region.wanted o (yielded ops a.tmps) = false → φ i undef w)
def Steps (P : Program) (ops : Array Oper) (C : World → Prop) (le : World → World → Prop) (φ : Nat → Value → World → Prop) (a0 : Act) : List Oper → Nat → Prop
  | [], _ => True
  | o :: l, k => One P ops C le φ a0 k o ∧ Steps P ops C le φ a0 l (k + 1)
theorem Steps.at : ∀ {l : List Oper} {k : Nat}, Steps P ops C le φ a0 l k → ∀ (i : Nat) (o : Oper), l[i]? = some o → One P ops C le φ a0 (k + i) o
  | [], _, _, i, o, h => by simp at h
  | p :: l, k, hs, 0, o, h => by simp at h; subst h; exact hs.1
  | p :: l, k, hs, i + 1, o, h => by
    have := Steps.at hs.2 i o (by simpa using h)
    rw [show k + 1 + i = k + (i + 1) by omega] at this; exact this
theorem same_at {l : List Oper} {a : Act} (hs : Same l.toArray a0 a) (t : Tmp) (ht : (l.all fun o => o.dst != some t) = true) : a.eval (.tmp t) = a0.tmps.getD t undef := by
  refine hs t fun j oj hj e => ?_
  rw [List.all_eq_true] at ht
  have := ht oj (List.mem_of_getElem? (by simpa using hj))
  rw [e] at this
  simp at this
theorem sn {a : Act} {t : Tmp} {v : Value} (h : a.eval (.tmp t) = v) : a.tmps[t]?.getD undef = v := by simpa [Act.eval] using h
theorem at_value {o : Oper} {a : Act} {w w' : World} {v : Value} {post : Value → World → Prop} (h : (execOp a.eval o).run P w = .ok (.value v) w') (hp : post v w') : At P o a w post := by
  unfold At; rw [h]; exact hp
theorem at_enter {o : Oper} {a : Act} {w w' : World} {f : FuncId} {args : Array Value} {post : Value → World → Prop} (h : (execOp a.eval o).run P w = .ok (.enter f args) w') (hp : Calls P f args w' fun e w'' => ∃ v, e = .returned v ∧ post v w'') : At P o a w post := by
  unfold At; rw [h]; exact hp
/-- The form to use: the worlds' order is 'as it was below the heap's size'. -/
abbrev leB : World → World → Prop := fun w w' => Below w.heap.size w w'
theorem wp_region_steps {id : Nat} {l : List Oper} {Q : Exit → Act → World → Prop} {w : World} (φ : Nat → Value → World → Prop) (C : World → Prop) (hm : P.follows .mixedOrders = true) (hok : okB l.toArray = true) (hdst : (l.all fun o => match o.dst with | none => true | some d => decide (d < a0.tmps.size)) = true)
    (stab : ∀ i v w w', φ i v w → C w → C w' → leB w w' → φ i v w') (hC : C { w with drawn := w.drawn + 1 }) (steps : Steps P l.toArray C leB φ a0 l 0)
    (fin : ∀ (vs : Nat → Value) (w' : World), C w' → (∀ (i : Nat) (o : Oper), l[i]? = some o → φ i (vs i) w') → Q .normal (puts l vs 0 a0) w') : (Code.region id l.toArray true).wp P Q a0 w :=
  wp_region hm hok hdst ⟨fun w => Below.refl _ w, fun h h' => Below.trans h (h'.mono h.size), stab, fun i o ho => by
    have := Steps.at steps i o (by simpa using ho)
    rw [Nat.zero_add] at this; exact this⟩ hC fin
end Loose
end Go.Proofs.YtmplmpiljjilnaaDoor
