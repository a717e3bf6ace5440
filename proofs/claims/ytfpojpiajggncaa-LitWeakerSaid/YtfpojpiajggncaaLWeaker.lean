/- LitWeaker: the walk. -/
import Derived.Test.YtfpojpiajggncaaLChecks
import Derived.Laws.AppendOwnNone
namespace Go.Proofs.Ytfpojpiajggncaa
open Go.RowKit
namespace L
open K

theorem holds_append (m : List Bool) (c d : List Int) : holdsB m (c ++ d) = (holdsB m c || holdsB m d) := by simp [holdsB]
theorem check_append (n : Int) (c d : List Int) (hc : c.length ≤ 40) (hd : d.length ≤ 40) : (checkE n (c ++ d) == 0) = ((checkE n c == 0) && (checkE n d == 0)) := by
  have h1 : ¬ 4096 < (c ++ d).length := by simp; omega
  have h2 : ¬ 4096 < c.length := by omega
  have h3 : ¬ 4096 < d.length := by omega
  unfold checkE
  by_cases h0 : n < 0 ∨ 1048576 < n
  · simp [h0]
  · rw [if_neg h0, if_neg h0, if_neg h0, if_neg h1, if_neg h2, if_neg h3, List.any_append]
    cases c.any (fun x => decide (x = 0) || decide (n < av x)) <;> cases d.any (fun x => decide (x = 0) || decide (n < av x)) <;> rfl

/-- Behind the append: both lists in one. -/
def App (B : Nat) (w : World) (c d : List Int) (v : Value) (w' : World) : Prop := w'.ownsRow B 3 1 v (c ++ d).length ((c ++ d).map (Value.int .i64)) ∧ Below B w w'

set_option maxHeartbeats 4000000 in
theorem weaker_walk (vc : Value) (c : List Int) (vd : Value) (d : List Int) (vm : Value) (m : List Bool) (n : Int) (w : World) (hC : IntsW .i64 w vc c) (hD : IntsW .i64 w vd d) (hM : BoolsW w vm m) (hn0 : (Lit.int .i64 n).wf = true) :
    Calls Try.prog 11 #[vc, vd, vm, .int .i64 n] w fun e w' => e = .returned (.bool true) ∧ Below w.heap.size w w' := by
  have hn := i64_of hn0
  clear hn0
  have hlc := IntsW.wf64 hC
  have hld := IntsW.wf64 hD
  have hshm : ∃ p cap, vm = .slice p m.length cap := by obtain ⟨p, cap, hv, _⟩ := hM; exact ⟨p, cap, hv⟩
  have hshc : ∃ p cap, vc = .slice p c.length cap := by obtain ⟨p, cap, hv, _⟩ := hC; exact ⟨p, cap, hv⟩
  have hshd : ∃ p cap, vd = .slice p d.length cap := by obtain ⟨p, cap, hv, _⟩ := hD; exact ⟨p, cap, hv⟩
  by_cases h1 : 40 < c.length
  · obtain ⟨pm, capm, rfl⟩ := hshm
    obtain ⟨pc, capc, rfl⟩ := hshc
    obtain ⟨pd, capd, rfl⟩ := hshd
    clear hC hD hM hlc hld
    go_enter Try.func11, Try.ntmps11
    go_wp2_with (go_at_call 12; refine (known_any _).mono ?_; rintro e w' ⟨rfl, hbw⟩)
    go_ret
    exact ⟨rfl, by assumption⟩
  by_cases h2 : 40 < d.length
  · obtain ⟨pm, capm, rfl⟩ := hshm
    obtain ⟨pc, capc, rfl⟩ := hshc
    obtain ⟨pd, capd, rfl⟩ := hshd
    clear hC hD hM hlc hld
    go_enter Try.func11, Try.ntmps11
    go_wp2_with (go_at_call 12; refine (known_any _).mono ?_; rintro e w' ⟨rfl, hbw⟩)
    go_ret
    exact ⟨rfl, by assumption⟩
  by_cases h3 : 100 < m.length
  · obtain ⟨pm, capm, rfl⟩ := hshm
    obtain ⟨pc, capc, rfl⟩ := hshc
    obtain ⟨pd, capd, rfl⟩ := hshd
    clear hC hD hM hlc hld
    go_enter Try.func11, Try.ntmps11
    go_wp2_with (go_at_call 12; refine (known_any _).mono ?_; rintro e w' ⟨rfl, hbw⟩)
    go_ret
    exact ⟨rfl, by assumption⟩
  have hIc := hC.ints (by omega)
  have hId := hD.ints (by omega)
  have hB := hM.bools (by omega)
  have hdn : (∃ cap, vd = .slice none d.length cap ∧ d = [] ∧ cap = 0) ∨ ∃ a cap, vd = .slice (some a) d.length cap ∧ ∀ (w' : World), Below w.heap.size w w' → ∀ j u, (d.map (Value.int .i64))[j]? = some u → w'.cell? (a.add j) = some u := by
    obtain ⟨p, cap, hv, hx, _, _, hcell⟩ := hD
    cases p with
    | none =>
      left
      have h0 := hx.2 rfl
      exact ⟨cap, hv, List.length_eq_zero_iff.1 (by have := hx.1; omega), h0⟩
    | some a =>
      right
      refine ⟨a, cap, hv, fun w' hb j u hu => ?_⟩
      have hj : j < d.length := by
        have := (List.getElem?_eq_some_iff.1 hu).1
        simpa using this
      obtain ⟨b, off, hp, hcc⟩ := hcell (by omega)
      cases hp
      have h5 := hcc j hj
      rw [show (⟨b, off, none⟩ : Addr).add j = ⟨b, off + j, none⟩ from by simp [Addr.add], hb.cell (p := ⟨b, off + j, none⟩) (World.block_lt_of_cell? _ _ h5), h5, ← hu]
      simp [List.getD, hj]
  clear hC hD hM
  obtain ⟨pm, capm, rfl⟩ := hshm
  obtain ⟨pc, capc, rfl⟩ := hshc
  obtain ⟨i0, hi, hz0, hz1, hz2⟩ := info_parts info3
  have rest : True := trivial
  rcases hdn with ⟨capd, rfl, hd0, hcap0⟩ | ⟨a, capd, rfl, hcd⟩
  · subst hd0
    subst hcap0
    go_enter Try.func11, Try.ntmps11
    go_wp2_with fail
    refine (copy_any _ c _ hIc).mono ?_
    rintro e w1 ⟨v', rfl, hown, hb'⟩
    go_wp2_with (at_builtin; refine wpList_append_own_none rfl _ _ 22 rfl w.heap.size 3 i0 1 Try.underlying22 hi _ _ _ rfl hown rfl ?_)

    have hI : Ints w1 v' c := owns_ints (base := w.heap.size) hown (by omega)
    have hIc2 := hIc.below hb'
    have hId2 := hId.below hb'
    have hB2 := hB.below hb'
    have hlcd : ∀ x ∈ c, I64 x := hlc
    have hN : holdsB m [] = false := rfl
    have eK : (checkE n c == 0) = true → (checkE n [] == 0) = true := fun h => by
      have := check_append n c [] (by omega) (by omega)
      rw [List.append_nil, h] at this
      simpa using this.symm
    have EK := Lib.hid eK
    clear eK hIc hId hB hown
    go_wp2_with fail
    refine (holds_any _ _ m c _ hlcd hB2 hI).mono ?_
    rintro e w9 ⟨rfl, rfl⟩
    go_wp2_with fail
    refine (holds_any _ _ m c _ hlc hB2 hIc2).mono ?_
    rintro e w9 ⟨rfl, rfl⟩
    cases hA : holdsB m c with
    | true =>
      go_wp2_with fail
      refine (check_any n _ c _ hn hlcd hI).mono ?_
      rintro e w9 ⟨rfl, rfl⟩
      skip
      go_wp2_with fail
      refine (check_any n _ c _ hn hlc hIc2).mono ?_
      rintro e w9 ⟨rfl, rfl⟩
      cases hK : (checkE n c == 0) with
      | true =>
        have hEK := EK.out hK
        go_wp2_with fail
        refine (check_any n _ [] _ hn hld hId2).mono ?_
        rintro e w9 ⟨rfl, rfl⟩
        go_wp2_with (go_at_call 12; refine (known_any _).mono ?_; rintro e w' ⟨rfl, hbw⟩)
        go_ret
        exact ⟨rfl, hb'.trans ((by assumption : Below _ _ _).mono hb'.size)⟩
      | false =>
        go_wp2_with (go_at_call 12; refine (known_any _).mono ?_; rintro e w' ⟨rfl, hbw⟩)
        go_ret
        exact ⟨rfl, hb'.trans ((by assumption : Below _ _ _).mono hb'.size)⟩
    | false =>
      go_wp2_with fail
      refine (holds_any _ _ m [] _ hld hB2 hId2).mono ?_
      rintro e w9 ⟨rfl, rfl⟩
      go_wp2_with fail
      refine (check_any n _ c _ hn hlcd hI).mono ?_
      rintro e w9 ⟨rfl, rfl⟩
      skip
      go_wp2_with fail
      refine (check_any n _ c _ hn hlc hIc2).mono ?_
      rintro e w9 ⟨rfl, rfl⟩
      cases hK : (checkE n c == 0) with
      | true =>
        have hEK := EK.out hK
        go_wp2_with fail
        refine (check_any n _ [] _ hn hld hId2).mono ?_
        rintro e w9 ⟨rfl, rfl⟩
        go_wp2_with (go_at_call 12; refine (known_any _).mono ?_; rintro e w' ⟨rfl, hbw⟩)
        go_ret
        exact ⟨rfl, hb'.trans ((by assumption : Below _ _ _).mono hb'.size)⟩
      | false =>
        go_wp2_with (go_at_call 12; refine (known_any _).mono ?_; rintro e w' ⟨rfl, hbw⟩)
        go_ret
        exact ⟨rfl, hb'.trans ((by assumption : Below _ _ _).mono hb'.size)⟩
  · have HCD := Lib.hid hcd
    clear hcd
    go_enter Try.func11, Try.ntmps11
    go_wp2_with fail
    refine (copy_any _ c _ hIc).mono ?_
    rintro e w1 ⟨v', rfl, hown, hb⟩
    go_wp2_with (at_builtin; refine wpList_append_own _ rfl _ _ 22 rfl w.heap.size 3 i0 (.int .i64 0) 1 8 Try.underlying22 hi hz0 hz1 hz2 rfl (by decide) _ _ _ rfl hown a d.length capd (d.map (Value.int .i64)) rfl ?c0 ?c1 ?c2 ?c3 ?c4 ?c5 ?_)
    case c0 => simp
    case c1 => exact HCD.out w1 hb
    case c2 => intro u hu; obtain ⟨x, _, rfl⟩ := List.mem_map.1 hu; rfl
    case c3 => unfold maxLen; omega
    case c4 => omega
    case c5 => have := hb.size; omega
    intro v2 w2 hown' hgrow _
    have hb' := hb.grown hgrow hb.size (fun k hk => (hown.lt k hk).1)

    have hI : Ints w2 v2 (c ++ d) := owns_ints (base := w.heap.size) (by simpa using hown') (by simp; omega)
    have hIc2 := hIc.below hb'
    have hId2 := hId.below hb'
    have hB2 := hB.below hb'
    have hlcd : ∀ x ∈ c ++ d, I64 x := fun x hx => (List.mem_append.1 hx).elim (hlc x) (hld x)
    have eH := holds_append m c d
    have eK := check_append n c d (by omega) (by omega)
    have EE := Lib.hid eH
    have EK := Lib.hid eK
    clear eH eK hIc hId hB hown'
    go_wp2_with fail
    refine (holds_any _ _ m (c ++ d) _ hlcd hB2 hI).mono ?_
    rintro e w9 ⟨rfl, rfl⟩
    rw [EE.out]
    go_wp2_with fail
    refine (holds_any _ _ m c _ hlc hB2 hIc2).mono ?_
    rintro e w9 ⟨rfl, rfl⟩
    cases hA : holdsB m c with
    | true =>
      go_wp2_with fail
      refine (check_any n _ (c ++ d) _ hn hlcd hI).mono ?_
      rintro e w9 ⟨rfl, rfl⟩
      have hEK := EK.out
      go_wp2_with fail
      refine (check_any n _ c _ hn hlc hIc2).mono ?_
      rintro e w9 ⟨rfl, rfl⟩
      cases hK : (checkE n c == 0) with
      | true =>
        rw [hK] at hEK
        go_wp2_with fail
        refine (check_any n _ d _ hn hld hId2).mono ?_
        rintro e w9 ⟨rfl, rfl⟩
        go_wp2_with (go_at_call 12; refine (known_any _).mono ?_; rintro e w' ⟨rfl, hbw⟩)
        go_ret
        exact ⟨rfl, hb'.trans ((by assumption : Below _ _ _).mono hb'.size)⟩
      | false =>
        rw [hK] at hEK
        go_wp2_with (go_at_call 12; refine (known_any _).mono ?_; rintro e w' ⟨rfl, hbw⟩)
        go_ret
        exact ⟨rfl, hb'.trans ((by assumption : Below _ _ _).mono hb'.size)⟩
    | false =>
      go_wp2_with fail
      refine (holds_any _ _ m d _ hld hB2 hId2).mono ?_
      rintro e w9 ⟨rfl, rfl⟩
      go_wp2_with fail
      refine (check_any n _ (c ++ d) _ hn hlcd hI).mono ?_
      rintro e w9 ⟨rfl, rfl⟩
      have hEK := EK.out
      go_wp2_with fail
      refine (check_any n _ c _ hn hlc hIc2).mono ?_
      rintro e w9 ⟨rfl, rfl⟩
      cases hK : (checkE n c == 0) with
      | true =>
        rw [hK] at hEK
        go_wp2_with fail
        refine (check_any n _ d _ hn hld hId2).mono ?_
        rintro e w9 ⟨rfl, rfl⟩
        go_wp2_with (go_at_call 12; refine (known_any _).mono ?_; rintro e w' ⟨rfl, hbw⟩)
        go_ret
        exact ⟨rfl, hb'.trans ((by assumption : Below _ _ _).mono hb'.size)⟩
      | false =>
        rw [hK] at hEK
        go_wp2_with (go_at_call 12; refine (known_any _).mono ?_; rintro e w' ⟨rfl, hbw⟩)
        go_ret
        exact ⟨rfl, hb'.trans ((by assumption : Below _ _ _).mono hb'.size)⟩
end L
end Go.Proofs.Ytfpojpiajggncaa
