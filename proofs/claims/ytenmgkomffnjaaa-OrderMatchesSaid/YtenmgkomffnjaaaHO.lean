/- What comes out of a heap: in order, once; all. -/
import Derived.Test.YtenmgkomffnjaaaHN
namespace Go.Proofs.Ytenmgkomffnjaaa
open Go.RowKit
namespace HP
/-- What comes out of a heap, until nothing is in it. -/
def Drains (A : List Int) (M : Nat → Prop) (out : List Nat) : Prop := out.Pairwise (Pre A) ∧ ∀ x, x ∈ out ↔ M x
theorem Drains.unique {A : List Int} {M : Nat → Prop} {a b : List Nat} (h : Drains A M a) (h2 : Drains A M b) : a = b := by
  induction a generalizing b M with
  | nil =>
    cases b with
    | nil => rfl
    | cons y b => have := (h.2 y).2 ((h2.2 y).1 (by simp)); cases this
  | cons x a ih =>
    cases b with
    | nil => have := (h2.2 x).2 ((h.2 x).1 (by simp)); cases this
    | cons y b =>
      obtain ⟨h1, h3⟩ := List.pairwise_cons.1 h.1
      obtain ⟨k1, k3⟩ := List.pairwise_cons.1 h2.1
      have e : x = y := by
        have hy := (h.2 y).2 ((h2.2 y).1 (by simp))
        have hx := (h2.2 x).2 ((h.2 x).1 (by simp))
        rcases List.mem_cons.1 hy with hy | hy
        · exact hy.symm
        · rcases List.mem_cons.1 hx with hx | hx
          · exact hx
          · exact absurd (h1 y hy) (pre_asymm (k1 x hx))
      subst e
      have nx : x ∉ a := fun hx => pre_irrefl A x (h1 x hx)
      have nx2 : x ∉ b := fun hx => pre_irrefl A x (k1 x hx)
      have : a = b := ih (M := fun z => M z ∧ z ≠ x) ⟨h3, fun z => by
          constructor
          · intro hz; exact ⟨(h.2 z).1 (List.mem_cons_of_mem _ hz), fun e => nx (e ▸ hz)⟩
          · rintro ⟨hz, hne⟩
            rcases List.mem_cons.1 ((h.2 z).2 hz) with e | e
            · exact absurd e hne
            · exact e⟩ ⟨k3, fun z => by
          constructor
          · intro hz; exact ⟨(h2.2 z).1 (List.mem_cons_of_mem _ hz), fun e => nx2 (e ▸ hz)⟩
          · rintro ⟨hz, hne⟩
            rcases List.mem_cons.1 ((h2.2 z).2 hz) with e | e
            · exact absurd e hne
            · exact e⟩
      rw [this]
theorem Drains.nodup {A : List Int} {M : Nat → Prop} {a : List Nat} (h : Drains A M a) : a.Nodup := by
  rw [List.nodup_iff_pairwise_ne]
  refine List.Pairwise.imp ?_ h.1
  intro x y hxy e
  subst e
  exact pre_irrefl A x hxy
/-- The numbers that are returned. -/
def nums (out : List Nat) : List Int := out.map fun x : Nat => (x : Int) + 1
theorem nums_len (out : List Nat) : (nums out).length = out.length := by simp [nums]
theorem nums_snoc (out : List Nat) (x : Nat) : nums (out ++ [x]) = nums out ++ [(x : Int) + 1] := by simp [nums]
theorem nums_at {out : List Nat} {k : Nat} (h : k < out.length) : (nums out).getD k 0 = (out.getD k 0 : Int) + 1 := by simp [nums, List.getD, h]
theorem nums_inj {a b : List Nat} (h : nums a = nums b) : a = b := by
  have hl : a.length = b.length := by rw [← nums_len a, ← nums_len b, h]
  refine nat_ext hl fun k hk => ?_
  have h1 := nums_at hk
  have h2 := nums_at (out := b) (k := k) (by omega)
  rw [h] at h1
  omega
/-- What has come out so far, and what is left. -/
structure Partly (A : List Int) (M M' : Nat → Prop) (out : List Nat) : Prop where
  sorted : out.Pairwise (Pre A)
  left : ∀ x, M' x ↔ M x ∧ x ∉ out
  sub : ∀ x ∈ out, M x
  ahead : ∀ x ∈ out, ∀ y, M' y → Pre A x y
theorem Partly.start (A : List Int) (M : Nat → Prop) : Partly A M M [] := ⟨List.Pairwise.nil, fun x => (by simp), fun x hx => (by cases hx), fun x hx => (by cases hx)⟩
theorem Partly.step {A : List Int} {M M' : Nat → Prop} {out : List Nat} (h : Partly A M M' out) {b : Nat} (hb : Best A M' b) : Partly A M (fun x => M' x ∧ x ≠ b) (out ++ [b]) := by
  refine ⟨?_, fun x => ?_, fun x hx => ?_, fun x hx y hy => ?_⟩
  · rw [List.pairwise_append]
    exact ⟨h.sorted, List.pairwise_singleton _ _, fun x hx y hy => by rw [List.mem_singleton.1 hy]; exact h.ahead x hx b hb.1⟩
  · rw [h.left x, List.mem_append, List.mem_singleton]
    constructor
    · rintro ⟨⟨h1, h2⟩, h3⟩; exact ⟨h1, fun e => e.elim h2 h3⟩
    · rintro ⟨h1, h2⟩; exact ⟨⟨h1, fun e => h2 (.inl e)⟩, fun e => h2 (.inr e)⟩
  · rcases List.mem_append.1 hx with hx | hx
    · exact h.sub x hx
    · rw [List.mem_singleton.1 hx]; exact ((h.left b).1 hb.1).1
  · rcases List.mem_append.1 hx with hx | hx
    · exact h.ahead x hx y hy.1
    · rw [List.mem_singleton.1 hx]; exact hb.2 y hy.1 hy.2
theorem Partly.done {A : List Int} {M M' : Nat → Prop} {out : List Nat} (h : Partly A M M' out) (he : ∀ x, ¬ M' x) : Drains A M out :=
  ⟨h.sorted, fun x => ⟨h.sub x, fun hx => Classical.byContradiction fun hn => he x ((h.left x).2 ⟨hx, hn⟩)⟩⟩
/-- The next of all is the best of what is left. -/
theorem Drains.best {A : List Int} {M M' : Nat → Prop} {all : List Nat} (h : Drains A M all) {k : Nat} (hk : k < all.length) (hp : Partly A M M' (all.take k)) : Best A M' (all.getD k 0) := by
  have hm := mem_getD_nat hk
  have hnd := h.nodup
  have hout : all.getD k 0 ∉ all.take k := fun hx => by
    obtain ⟨j, hj, e⟩ := getD_of_mem hx
    rw [List.length_take] at hj
    rw [take_getD (by omega)] at e
    have := (List.nodup_iff_pairwise_ne.1 hnd)
    rw [List.pairwise_iff_getElem] at this
    have := this j k (by omega) hk (by omega)
    simp only [List.getD_eq_getElem?_getD, List.getElem?_eq_getElem (show j < all.length by omega), List.getElem?_eq_getElem hk, Option.getD_some] at e
    exact this e
  refine ⟨(hp.left _).2 ⟨(h.2 _).1 hm, hout⟩, fun x hx hne => ?_⟩
  obtain ⟨h1, h2⟩ := (hp.left x).1 hx
  obtain ⟨j, hj, rfl⟩ := getD_of_mem ((h.2 x).2 h1)
  have hjk : ¬ j < k := fun hlt => h2 (by rw [← take_getD hlt]; exact mem_getD_nat (by rw [List.length_take]; omega))
  have hjn : j ≠ k := fun e => hne (by rw [e])
  have := h.1
  rw [List.pairwise_iff_getElem] at this
  have := this k j hk hj (by omega)
  simpa [List.getD, hk, hj] using this
end HP
namespace K
open HP
theorem Held.empty {full : Bool} {lo hi : Nat} {w : World} {p : Value} {A : List Int} {M : Nat → Prop} (h : Held full lo hi w p A M 0) : ∀ x, ¬ M x := by
  obtain ⟨s, R, Q, _, h⟩ := h
  exact h.good.empty h.len
theorem OwnI.out {lo hi : Nat} {w w' : World} {base : Nat} {v : Value} {l : List Int} (h : OwnI w base v l) (ho : Out lo hi w w') (hb : hi ≤ base) : OwnI w' base v l :=
  owns_of_block h fun k hk => ho.block k (h.lt k hk).2 (.inr (Nat.le_trans hb (h.lt k hk).1))
end K
namespace L
open K HP
set_option maxRecDepth 100000
/-- The length of a slice. -/
def slen : Value → Nat | .slice _ n _ => n | _ => 0
set_option maxHeartbeats 4000000 in
theorem all_any {full : Bool} {lo hi : Nat} {w : World} {p : Value} {A : List Int} {M : Nat → Prop} {len : Nat} (h : Held full lo hi w p A M len) (hlen : len ≤ 200) :
    Calls Try.prog 27 #[p] w fun e w' => ∃ v out, e = .returned v ∧ Drains A M out ∧ out.length = len ∧ OwnI w' w.heap.size v (nums out) ∧ Held full lo hi w' p A (fun _ => False) 0 ∧ Out lo hi w w' := by
  obtain ⟨i3, hi3, hz30, hz31, hz32⟩ := info_parts info3
  obtain ⟨g, rfl⟩ := h.ptr
  have hw := h.hi_w
  have H := Lib.hid h
  clear h
  go_enter Try.func27, Try.ntmps27
  go_wp2
  go_loopw [3] (fun vc wr => ∃ (out : List Nat) (M' : Nat → Prop) (m : Nat), out.length + m = len ∧ Partly A M M' out ∧ Held full lo hi wr (.pointer (some ⟨g, 0, none⟩)) A M' m ∧ OwnI wr w.heap.size vc (nums out) ∧ Out lo hi w wr) (fun vc _ => len - slen vc)
  case atStart => exact ⟨[], M, len, by simp, Partly.start A M, H.out, OwnI.nil _ _, Out.refl _ _ _⟩
  case round =>
    clear H
    obtain ⟨out, M', m, hm, hp, hh, hown, ho⟩ := hrel
    have hol : (nums out).length = out.length := nums_len out
    obtain ⟨pc, nc, rfl⟩ := owns_shape hown
    have hown' : wr.ownsRow w.heap.size 3 1 (.slice pc out.length nc) out.length ((nums out).map (Value.int .i64)) := by
      have h := hown
      unfold OwnI at h
      rw [hol] at h
      exact h
    rw [hol]
    have hout200 : out.length ≤ 200 := by omega
    have hsz := ho.size
    cases m with
    | zero =>
      have hpop := popH_none hh
      have HP := Lib.hid hpop
      have HD := Lib.hid (hp.done hh.empty)
      have HH := Lib.hid (hh.congr (M' := fun _ => False) (fun x => ⟨fun hx => hh.empty x hx, fun hx => hx.elim⟩))
      have HOW := Lib.hid hown
      have HOO := Lib.hid ho
      have HM := Lib.hid hm
      rw [hol] at HOW
      clear hpop hp hh hown hown' ho hol hm
      go_wp2_with (go_at_call 16; refine (HP.out).mono ?_; rintro e w3 ⟨rfl, rfl⟩)
      go_ret
      exact ⟨_, out, rfl, HD.out, by have := HM.out; omega, HOW.out, HH.out, HOO.out⟩
    | succ m =>
      have hpop := popH_some hh
      have hbd := hh.lenle.2
      have hst := fun b hb => hp.step (b := b) hb
      have HP := Lib.hid hpop
      have HST := Lib.hid hst
      have HOW := Lib.hid hown'
      have HOO := Lib.hid ho
      have HM := Lib.hid hm
      have HNUM := Lib.hid hol
      clear hpop hp hh hown hown' ho hst hol hm
      have hgt : decide ((out.length : Int) > 1000) = false := by rw [decide_eq_false_iff_not]; omega
      generalize hon : out.length = n at *
      have HON := Lib.hid hon
      clear hon
      go_wp2_with (first
        | (go_at_call 16; refine (HP.out).mono ?_; rintro e w3 ⟨b, rfl, h1, h2, h3, h4⟩; refine Hid.out ?_))
      have H1 := Lib.hid (HST.out b h1)
      have HB := Lib.hid h2
      have H3 := Lib.hid h3
      have HO3 := Lib.hid (HOO.out.trans h4)
      have HOW3 := Lib.hid (owns_of_block (w' := w3) HOW.out fun k hk => h4.block k (HOW.out.lt k hk).2 (.inr (Nat.le_trans hw (HOW.out.lt k hk).1)))
      have hs3 : w.heap.size ≤ w3.heap.size := Nat.le_trans hsz h4.size
      clear h1 h2 h3 h4
      refine Lib.hid ?_
      go_wp2_with (at_builtin; refine wpList_append_own _ rfl _ _ 45 rfl w.heap.size 3 i3 (.int .i64 0) 1 8 Try.underlying45 hi3 hz30 hz31 hz32 rfl (by decide) _ _ _ rfl (HOW3.out.alloc _) ⟨w3.heap.size, 0, none⟩ 1 1 [.int .i64 ((b : Int) + 1)] rfl rfl ?c1 ?c2 ?c3 ?c4 ?c5 ?_)
      case c1 =>
        intro j u hj
        match j, hj with
        | 0, hj => simp at hj; subst hj; exact cell_fresh rfl (by simp [Addr.add]) rfl
      case c2 => intro u hu; simp at hu; subst hu; rfl
      case c3 => unfold maxLen; omega
      case c4 => omega
      case c5 => simp; omega
      intro v' w4 hown' hgrow _
      have hb4 : Below w.heap.size w3 w4 := ((Below.refl w.heap.size w3).alloc hs3 (.cells #[.int .i64 ((b : Int) + 1)] 3)).grown hgrow (by simp; omega) (fun k hk => (HOW3.out.lt k hk).1)
      have H4 := Lib.hid (H3.out.below hb4 hw)
      have HO4 := Lib.hid (HO3.out.below hb4 (Nat.le_refl _))
      have HOW4 : Hid (OwnI w4 w.heap.size v' (nums (out ++ [b]))) := Lib.hid (by
        unfold OwnI
        rw [nums_snoc, List.length_append, HNUM.out, List.map_append]
        exact hown')
      obtain ⟨pv, cv, rfl⟩ := owns_shape hown'
      clear hown' hgrow hb4
      go_wp2
      go_roundw
      case rel => exact ⟨out ++ [b], _, m, by have := HM.out; have := HON.out; rw [List.length_append, List.length_singleton]; omega, H1.out, H4.out, HOW4.out, HO4.out⟩
      case measure => have := HM.out; simp [slen]; omega
end L
end Go.Proofs.Ytenmgkomffnjaaa
