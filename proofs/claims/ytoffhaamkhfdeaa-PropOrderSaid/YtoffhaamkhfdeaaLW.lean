/- What the laws on valid formulas share. -/
import Derived.Test.YtoffhaamkhfdeaaLV
import Derived.Test.YtoffhaamkhfdeaaYD
namespace Go.Proofs.Ytoffhaamkhfdeaa
open Go.RowKit Go.Conc
namespace K
theorem Ints.take {w : World} {p : Option Addr} {n cap : Nat} {l : List Int} (h : Ints w (.slice p n cap) l) (k : Nat) (hk : k ≤ l.length) : Ints w (.slice p k cap) (l.take k) := by
  obtain ⟨p', c', e, h1, h2, h3⟩ := h
  cases e
  have hl : (l.take k).length = k := by simp; omega
  refine ⟨p, cap, by rw [hl], by omega, by omega, fun h0 => ?_⟩
  obtain ⟨b, off, e, hc⟩ := h3 (by omega)
  refine ⟨b, off, e, fun j hj => ?_⟩
  rw [hc j (by omega)]
  simp [List.getD, List.getElem?_take, show j < k by omega]
theorem Lists.take {w : World} {p : Option Addr} {n cap : Nat} {l : List (List Int)} (h : Lists w (.slice p n cap) l) (k : Nat) (hk : k ≤ l.length) : Lists w (.slice p k cap) (l.take k) := by
  obtain ⟨p', c', e, h1, h2, h3⟩ := h
  cases e
  have hl : (l.take k).length = k := by simp; omega
  refine ⟨p, cap, by rw [hl], by omega, by omega, fun h0 => ?_⟩
  obtain ⟨b, off, e, hc⟩ := h3 (by omega)
  refine ⟨b, off, e, fun j hj => ?_⟩
  obtain ⟨u, hu, hi⟩ := hc j (by omega)
  refine ⟨u, hu, ?_⟩
  have e2 : (l.take k).getD j [] = l.getD j [] := by simp [List.getD, List.getElem?_take, show j < k by omega]
  rw [e2]; exact hi
end K
namespace L
open K

theorem checkU_valid {n : Nat} {cs : List (List Int)} {A : List Int} (h : checkF n cs = 0) (hA : U.Val n A) : checkU n cs A = 0 := by
  unfold checkU
  rw [if_neg (by simp [h])]
  have : A.any (fun x => decide (x = 0) || decide ((n : Int) < av x)) = false := by
    rw [List.any_eq_false]
    intro x hx
    obtain ⟨h1, h2⟩ := hA x hx
    simp only [Bool.or_eq_true, decide_eq_true_eq, not_or]
    refine ⟨h1, ?_⟩
    unfold av
    split <;> omega
  rw [this]; rfl
theorem units_cases {n : Nat} {cs : List (List Int)} {A : List Int} (h : checkU n cs A = 0) :
    (U.Bad cs A ∧ unitsR n cs A = ([], true, 0)) ∨ (¬ U.Bad cs A ∧ unitsR n cs A = (U.lits n (U.Der cs A), false, 0)) := by
  by_cases hb : U.Bad cs A
  · exact .inl ⟨hb, unitsR_fails h (U.unitsOf_bad hb)⟩
  · exact .inr ⟨hb, unitsR_ok h (U.unitsOf_good hb)⟩
theorem val_fitC {V : Nat} (hV : 1 ≤ V ∧ V ≤ 12) (l : List Int) : U.Val V (fitC V l) := by
  intro x hx
  obtain ⟨h1, h2, _⟩ := fitC_mem (V := V) (by omega) (by omega) x hx
  refine ⟨h1, ?_⟩
  unfold av at h2
  split at h2 <;> omega
theorem val_fitL {V : Nat} (hV : 1 ≤ V ∧ V ≤ 12) (L : List (List Int)) : ∀ c ∈ fitL V L, U.Val V c := by
  intro c hc
  obtain ⟨l', _, rfl⟩ := fitL_mem hc
  exact val_fitC hV l'
theorem val_i64 {n : Nat} (hn : n ≤ 1048576) {l : List Int} (h : U.Val n l) : ∀ x ∈ l, I64 x := fun x hx => by have := (h x hx).2; unfold I64; omega
/-- What is found is what follows. -/
theorem mem_units {n : Nat} {cs : List (List Int)} {A : List Int} (hb : ¬ U.Bad cs A) (hc : ∀ c ∈ cs, U.Val n c) (hA : U.Val n A) (x : Int) : x ∈ U.lits n (U.Der cs A) ↔ U.Der cs A x := by
  have hv : ∀ {x : Int}, U.Der cs A x → x ≠ 0 ∧ -(n : Int) ≤ x ∧ x ≤ n := fun hd => hd.valid (n := n) (fun c h x hx => by have := hc c h x hx; omega) (fun x hx => by have := hA x hx; omega)
  exact U.mem_lits (fun h => (hv h).1 rfl) (fun x h => (hv h).2) (fun x h => h.con hb) x
theorem val_units {n : Nat} {cs : List (List Int)} {A : List Int} (hb : ¬ U.Bad cs A) (hc : ∀ c ∈ cs, U.Val n c) (hA : U.Val n A) : U.Val n (U.lits n (U.Der cs A)) := by
  intro x hx
  have := ((mem_units hb hc hA x).1 hx).valid (n := n) (fun c h x hx => by have := hc c h x hx; omega) (fun x hx => by have := hA x hx; omega)
  omega
/-- What was returned, assumed, gives the same. -/
theorem units_again {n : Nat} {cs : List (List Int)} {A : List Int} (hb : ¬ U.Bad cs A) (hc : ∀ c ∈ cs, U.Val n c) (hA : U.Val n A) : U.unitsOf n cs (U.lits n (U.Der cs A)) = some (U.lits n (U.Der cs A)) := by
  have hcl := U.Der.closed hb (fun c h x hx => (hc c h x hx).1)
  refine U.unitsOf_closed (T := U.Der cs A) ⟨fun x hx => (mem_units hb hc hA x).1 hx, hcl.con, hcl.cl⟩ (fun x hx => ?_)
  exact hx.mono (fun c h => h) (fun x h => (mem_units hb hc hA x).2 (.assume h))
end L
end Go.Proofs.Ytoffhaamkhfdeaa
