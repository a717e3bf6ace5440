/- Contract of the reader's begin. -/
import Derived.Test.YtddmanphhfjngaaDoorRE
namespace Go.Proofs.YtddmanphhfjngaaDoor
open Go.RowKit PA RA
namespace L
open K

def lst (ws : List ByteArray) : List (List UInt8) := ws.map (·.data.toList)
theorem eq_str (a : ByteArray) (l : List UInt8) : (a.toList == l) = decide (a.data.toList = l) := by
  rw [ByteArray.toList_eq, Bool.eq_iff_iff]; simp
theorem head_four (a b c d : List UInt8) : headS [a, b, c, d] =
    if a ≠ [112] ∨ b ≠ [99, 110, 102] then (0, 0, 4)
    else if (num c).2 = false ∨ (num d).2 = false ∨ (num c).1 < 0 ∨ (num d).1 < 0 then (0, 0, 4)
    else if 1048576 < (num c).1 then (0, 0, 3) else if 1048576 < (num d).1 then (0, 0, 5) else ((num c).1, (num d).1, 0) := by
  unfold headS; simp

theorem four_of {α : Type} {l : List α} (h : l.length = 4) : ∃ a b c d, l = [a, b, c, d] := by
  match l, h with
  | [a, b, c, d], _ => exact ⟨a, b, c, d, rfl⟩

set_option maxRecDepth 100000 in
set_option maxHeartbeats 4000000 in
theorem begin_any (R B C bw : Nat) (r : RS) (v : Value) (ws : List ByteArray) (W : World) (hws : ∀ a ∈ ws, a.size ≤ 9223372036854775807) (hrd : Rd W R B C r) (hw : W.ownsRow bw 9 1 v ws.length (ws.map Value.string)) (hlen : ws.length ≤ 9223372036854775807) :
    Calls Tryd.prog 47 #[.pointer (some ⟨R, 0, none⟩), v] W (REnd R B W (beginS r (lst ws))) := by
  obtain ⟨p, cp, rfl⟩ := owns_shape hw
  have same : Hid ((∃ C, Rd W R B C r) ∧ Keep (Chg R B) W W ∧ StrKeep W W) := ⟨⟨C, hrd⟩, Keep.refl _ _, StrKeep.refl _⟩
  obtain ⟨x, hx⟩ : ∃ x, headS (lst ws) = x := ⟨_, rfl⟩
  obtain ⟨y, hy⟩ : ∃ y, beginS r (lst ws) = y := ⟨_, rfl⟩
  rw [hy]
  unfold beginS at hy
  rw [hx] at hy
  by_cases h4 : ws.length = 4
  · obtain ⟨a, b, c, d, rfl⟩ := four_of h4
    clear h4
    simp only [lst, List.map_cons, List.map_nil] at hx hw
    rw [head_four] at hx
    have hna := number_any c W (hws c (by simp))
    have hnb := number_any d W (hws d (by simp))
    have hba := num_bound c.data.toList
    have hbb := num_bound d.data.toList
    unfold num at *
    obtain ⟨x1, o1, hx1⟩ : ∃ x o, numM 1048577 c.data.toList = (x, o) := ⟨_, _, rfl⟩
    obtain ⟨x2, o2, hx2⟩ : ∃ x o, numM 1048577 d.data.toList = (x, o) := ⟨_, _, rfl⟩
    rw [hx1] at hna hba hx
    rw [hx2] at hnb hbb hx
    simp only at hna hnb hba hbb hx
    clear hx1 hx2
    obtain ⟨g, cap, hp, _, _⟩ := owns_form hw (by simp)
    simp only [List.length_cons, List.length_nil] at hp hw
    injection hp with hp1 hp2 hp3
    subst hp1 hp3
    clear hp2
    have e0 := hw.cellAt 0 (by simp)
    have e1 := hw.cellAt 1 (by simp)
    have e2 := hw.cellAt 2 (by simp)
    have e3 := hw.cellAt 3 (by simp)
    simp only [List.getElem?_cons_zero, List.getElem?_cons_succ] at e0 e1 e2 e3
    by_cases hap : a.data.toList = [112]
    · have q1 : (a.toList == [112]) = true := by rw [eq_str]; simpa using hap
      have q1' : (!a.toList == [112]) = false := by rw [q1]; rfl
      have q1l : a.toList = [112] := by simpa using q1
      by_cases hbp : b.data.toList = [99, 110, 102]
      · have q2 : (b.toList == [99, 110, 102]) = true := by rw [eq_str]; simpa using hbp
        have q2' : (!b.toList == [99, 110, 102]) = false := by rw [q2]; rfl
        rw [if_neg (by simp [hap, hbp])] at hx
        clear hap hbp hws
        by_cases k1 : o1 = false
        · subst k1
          rw [if_pos (.inl rfl)] at hx
          subst hx
          simp only [show ¬ ((4 : Int) = 0) from by omega, show ¬ ((3 : Int) = 0) from by omega, show ¬ ((5 : Int) = 0) from by omega, if_false] at hy
          subst hy
          go_enter Tryd.func47, Tryd.ntmps47
          go_wp2_with fail
          refine hna.mono ?_
          rintro e w1 ⟨rfl, rfl⟩
          clear hna
          go_wp2_with fail
          refine hnb.mono ?_
          rintro e w2 ⟨rfl, rfl⟩
          clear hnb
          go_wp2
          go_ret
          exact ⟨rfl, same.out⟩
        obtain rfl : o1 = true := by simpa using k1
        by_cases k2 : o2 = false
        · subst k2
          rw [if_pos (.inr (.inl rfl))] at hx
          subst hx
          simp only [show ¬ ((4 : Int) = 0) from by omega, show ¬ ((3 : Int) = 0) from by omega, show ¬ ((5 : Int) = 0) from by omega, if_false] at hy
          subst hy
          go_enter Tryd.func47, Tryd.ntmps47
          go_wp2_with fail
          refine hna.mono ?_
          rintro e w1 ⟨rfl, rfl⟩
          clear hna
          go_wp2_with fail
          refine hnb.mono ?_
          rintro e w2 ⟨rfl, rfl⟩
          clear hnb
          go_wp2
          go_ret
          exact ⟨rfl, same.out⟩
        obtain rfl : o2 = true := by simpa using k2
        clear k1 k2
        by_cases k3 : x1 < 0
        · rw [if_pos (.inr (.inr (.inl k3)))] at hx
          subst hx
          simp only [show ¬ ((4 : Int) = 0) from by omega, show ¬ ((3 : Int) = 0) from by omega, show ¬ ((5 : Int) = 0) from by omega, if_false] at hy
          subst hy
          go_enter Tryd.func47, Tryd.ntmps47
          go_wp2_with fail
          refine hna.mono ?_
          rintro e w1 ⟨rfl, rfl⟩
          clear hna
          go_wp2_with fail
          refine hnb.mono ?_
          rintro e w2 ⟨rfl, rfl⟩
          clear hnb
          go_wp2
          go_ret
          exact ⟨rfl, same.out⟩
        by_cases k4 : x2 < 0
        · rw [if_pos (.inr (.inr (.inr k4)))] at hx
          subst hx
          simp only [show ¬ ((4 : Int) = 0) from by omega, show ¬ ((3 : Int) = 0) from by omega, show ¬ ((5 : Int) = 0) from by omega, if_false] at hy
          subst hy
          go_enter Tryd.func47, Tryd.ntmps47
          go_wp2_with fail
          refine hna.mono ?_
          rintro e w1 ⟨rfl, rfl⟩
          clear hna
          go_wp2_with fail
          refine hnb.mono ?_
          rintro e w2 ⟨rfl, rfl⟩
          clear hnb
          go_wp2
          go_ret
          exact ⟨rfl, same.out⟩
        rw [if_neg (by simp [k3, k4])] at hx
        by_cases k5 : 1048576 < x1
        · rw [if_pos k5] at hx
          subst hx
          simp only [show ¬ ((4 : Int) = 0) from by omega, show ¬ ((3 : Int) = 0) from by omega, show ¬ ((5 : Int) = 0) from by omega, if_false] at hy
          subst hy
          go_enter Tryd.func47, Tryd.ntmps47
          go_wp2_with fail
          refine hna.mono ?_
          rintro e w1 ⟨rfl, rfl⟩
          clear hna
          go_wp2_with fail
          refine hnb.mono ?_
          rintro e w2 ⟨rfl, rfl⟩
          clear hnb
          go_wp2
          go_ret
          exact ⟨rfl, same.out⟩
        rw [if_neg k5] at hx
        by_cases k6 : 1048576 < x2
        · rw [if_pos k6] at hx
          subst hx
          simp only [show ¬ ((4 : Int) = 0) from by omega, show ¬ ((3 : Int) = 0) from by omega, show ¬ ((5 : Int) = 0) from by omega, if_false] at hy
          subst hy
          go_enter Tryd.func47, Tryd.ntmps47
          go_wp2_with fail
          refine hna.mono ?_
          rintro e w1 ⟨rfl, rfl⟩
          clear hna
          go_wp2_with fail
          refine hnb.mono ?_
          rintro e w2 ⟨rfl, rfl⟩
          clear hnb
          go_wp2
          go_ret
          exact ⟨rfl, same.out⟩
        rw [if_neg k6] at hx
        subst hx
        simp only [if_true] at hy
        subst hy
        obtain ⟨h1, h2, h3, vc, vk, us, hb, hus, hoc, hin, hok⟩ := hrd
        have c0 := hb.cell 0; have c1 := hb.cell 1; have c2 := hb.cell 2; have c4 := hb.cell 4
        unfold rcells at c0 c1 c2 c4
        simp only [List.getElem?_toArray, List.getElem?_cons_zero, List.getElem?_cons_succ] at c0 c1 c2 c4
        have f1 := hb.frozen 1; have f2 := hb.frozen 2; have f4 := hb.frozen 4
        have hend : Rd (((W.setCell ⟨R, 1, none⟩ (.bool true)).setCell ⟨R, 2, none⟩ (.int .i64 x1)).setCell ⟨R, 4, none⟩ (.int .i64 x2)) R B C { r with header := true, vars := x1, left := x2 } := by
          have hb' := ((hb.set 1 (.bool true)).set 2 (.int .i64 x1)).set 4 (.int .i64 x2)
          have hset : ∀ {base n : Nat} {e : TypeId} {v : Value} {xs : List Value}, R < base → W.ownsRow base e 1 v n xs → (((W.setCell ⟨R, 1, none⟩ (.bool true)).setCell ⟨R, 2, none⟩ (.int .i64 x1)).setCell ⟨R, 4, none⟩ (.int .i64 x2)).ownsRow base e 1 v n xs :=
            fun hlt hx => ownsRow_setCell_below (ownsRow_setCell_below (ownsRow_setCell_below hx (a := ⟨R, 1, none⟩) hlt _) (a := ⟨R, 2, none⟩) hlt _) (a := ⟨R, 4, none⟩) hlt _
          refine ⟨h1, h2, by simpa [World.setCell] using h3, vc, vk, us, by simpa [rcells] using hb', hus, hset h1 hoc, fun j hj => ⟨hset h1 (hin j hj).1, (hin j hj).2⟩, hset (by omega) hok⟩
        have hkeep : Keep (Chg R B) W (((W.setCell ⟨R, 1, none⟩ (.bool true)).setCell ⟨R, 2, none⟩ (.int .i64 x1)).setCell ⟨R, 4, none⟩ (.int .i64 x2)) :=
          (((Keep.refl _ _).setCell (fun h => h.2 rfl) _).setCell (fun h => h.2 rfl) _).setCell (fun h => h.2 rfl) _
        have hstr : StrKeep W (((W.setCell ⟨R, 1, none⟩ (.bool true)).setCell ⟨R, 2, none⟩ (.int .i64 x1)).setCell ⟨R, 4, none⟩ (.int .i64 x2)) :=
          ((((StrKeep.refl W).set (x := ⟨R, 1, none⟩) hb (by decide) _).set (x := ⟨R, 2, none⟩) (hb.set 1 _) (by decide) _).set (x := ⟨R, 4, none⟩) ((hb.set 1 _).set 2 _) (by decide) _)
        have HE := Lib.hid hend
        have HK := Lib.hid hkeep
        have HS := Lib.hid hstr
        clear hend hkeep hstr hb hus hoc hin hok same hw
        go_enter Tryd.func47, Tryd.ntmps47
        go_wp2_with fail
        refine hna.mono ?_
        rintro e w1 ⟨rfl, rfl⟩
        clear hna
        go_wp2_with fail
        refine hnb.mono ?_
        rintro e w2 ⟨rfl, rfl⟩
        clear hnb
        go_wp2
        go_ret
        exact ⟨rfl, ⟨C, HE.out⟩, HK.out, HS.out⟩
      · have q2 : (b.toList == [99, 110, 102]) = false := by rw [eq_str]; simpa using hbp
        have q2' : (!b.toList == [99, 110, 102]) = true := by rw [q2]; rfl
        rw [if_pos (.inr hbp)] at hx
        subst hx
        simp only [show ¬ ((4 : Int) = 0) from by omega, if_false] at hy
        subst hy
        clear hap hbp hna hnb hws
        go_enter Tryd.func47, Tryd.ntmps47
        go_wp2
        go_ret
        exact ⟨rfl, same.out⟩
    · have q1 : (a.toList == [112]) = false := by rw [eq_str]; simpa using hap
      have q1' : (!a.toList == [112]) = true := by rw [q1]; rfl
      rw [if_pos (.inl hap)] at hx
      subst hx
      simp only [show ¬ ((4 : Int) = 0) from by omega, if_false] at hy
      subst hy
      clear hap hna hnb hws
      go_enter Tryd.func47, Tryd.ntmps47
      go_wp2
      go_ret
      exact ⟨rfl, same.out⟩
  · have h4' : ((ws.length : Int) != 4) = true := by rw [bne_iff_ne]; omega
    have h4'' : ((ws.length : Int) == 4) = false := beq_eq_false_iff_ne.2 (by omega)
    have hxe : x = (0, 0, 4) := by rw [← hx]; unfold headS; rw [if_pos (.inl (by simpa [lst] using h4))]
    subst hxe
    simp only [show ¬ ((4 : Int) = 0) from by omega, if_false] at hy
    subst hy
    clear hx h4 hws
    go_enter Tryd.func47, Tryd.ntmps47
    go_wp2
    go_ret
    exact ⟨rfl, same.out⟩
end L
end Go.Proofs.YtddmanphhfjngaaDoor
