/- Several texts, joined. -/
import Derived.Test.YtlkhabdpancjjaaDoorQ06
import Derived.Test.YtlkhabdpancjjaaDoorQ05

/- Contract of the reader's begin. -/
section
namespace Go.Proofs.YtlkhabdpancjjaaDoor
open Go.RowKit PA RA
namespace L
open K

def lst (ws : List ByteArray) : List (List UInt8) := ws.map (·.data.toList)
theorem eq_str (a : ByteArray) (l : List UInt8) : (a.toList == l) = decide (a.data.toList = l) := by
  rw [ByteArray.toList_eq, Bool.eq_iff_iff]; simp
theorem head_four (a b c d : List UInt8) : headS [a, b, c, d] =
    if a ≠ [112] ∨ b ≠ [99, 110, 102] then (0, 0, 4)
    else if (num c).2 = false ∨ (num d).2 = false ∨ (num c).1 < 0 ∨ (num d).1 < 0 then (0, 0, 4)
    else if 1048576 < (num c).1 then (0, 0, 3) else if 1048576 < (num d).1 then (0, 0, 5) else ((num c).1, (num d).1, 0) := by
  unfold headS; simp

theorem four_of {α : Type} {l : List α} (h : l.length = 4) : ∃ a b c d, l = [a, b, c, d] := by
  match l, h with
  | [a, b, c, d], _ => exact ⟨a, b, c, d, rfl⟩

set_option maxRecDepth 100000 in
set_option maxHeartbeats 4000000 in
theorem begin_any (R B C bw : Nat) (r : RS) (v : Value) (ws : List ByteArray) (W : World) (hws : ∀ a ∈ ws, a.size ≤ 9223372036854775807) (hrd : Rd W R B C r) (hw : W.ownsRow bw 9 1 v ws.length (ws.map Value.string)) (hlen : ws.length ≤ 9223372036854775807) :
    Calls Tryd.prog 47 #[.pointer (some ⟨R, 0, none⟩), v] W (REnd R B W (beginS r (lst ws))) := by
  obtain ⟨p, cp, rfl⟩ := owns_shape hw
  have same : Hid ((∃ C, Rd W R B C r) ∧ Keep (Chg R B) W W ∧ StrKeep W W) := ⟨⟨C, hrd⟩, Keep.refl _ _, StrKeep.refl _⟩
  obtain ⟨x, hx⟩ : ∃ x, headS (lst ws) = x := ⟨_, rfl⟩
  obtain ⟨y, hy⟩ : ∃ y, beginS r (lst ws) = y := ⟨_, rfl⟩
  rw [hy]
  unfold beginS at hy
  rw [hx] at hy
  by_cases h4 : ws.length = 4
  · obtain ⟨a, b, c, d, rfl⟩ := four_of h4
    clear h4
    simp only [lst, List.map_cons, List.map_nil] at hx hw
    rw [head_four] at hx
    have hna := number_any c W (hws c (by simp))
    have hnb := number_any d W (hws d (by simp))
    have hba := num_bound c.data.toList
    have hbb := num_bound d.data.toList
    unfold num at *
    obtain ⟨x1, o1, hx1⟩ : ∃ x o, numM 1048577 c.data.toList = (x, o) := ⟨_, _, rfl⟩
    obtain ⟨x2, o2, hx2⟩ : ∃ x o, numM 1048577 d.data.toList = (x, o) := ⟨_, _, rfl⟩
    rw [hx1] at hna hba hx
    rw [hx2] at hnb hbb hx
    simp only at hna hnb hba hbb hx
    clear hx1 hx2
    obtain ⟨g, cap, hp, _, _⟩ := owns_form hw (by simp)
    simp only [List.length_cons, List.length_nil] at hp hw
    injection hp with hp1 hp2 hp3
    subst hp1 hp3
    clear hp2
    have e0 := hw.cellAt 0 (by simp)
    have e1 := hw.cellAt 1 (by simp)
    have e2 := hw.cellAt 2 (by simp)
    have e3 := hw.cellAt 3 (by simp)
    simp only [List.getElem?_cons_zero, List.getElem?_cons_succ] at e0 e1 e2 e3
    by_cases hap : a.data.toList = [112]
    · have q1 : (a.toList == [112]) = true := by rw [eq_str]; simpa using hap
      have q1' : (!a.toList == [112]) = false := by rw [q1]; rfl
      have q1l : a.toList = [112] := by simpa using q1
      by_cases hbp : b.data.toList = [99, 110, 102]
      · have q2 : (b.toList == [99, 110, 102]) = true := by rw [eq_str]; simpa using hbp
        have q2' : (!b.toList == [99, 110, 102]) = false := by rw [q2]; rfl
        rw [if_neg (by simp [hap, hbp])] at hx
        clear hap hbp hws
        by_cases k1 : o1 = false
        · subst k1
          rw [if_pos (.inl rfl)] at hx
          subst hx
          simp only [show ¬ ((4 : Int) = 0) from by omega, if_false] at hy
          subst hy
          go_enter Tryd.func47, Tryd.ntmps47
          go_wp2_with fail
          refine hna.mono ?_
          rintro e w1 ⟨rfl, rfl⟩
          clear hna
          go_wp2_with fail
          refine hnb.mono ?_
          rintro e w2 ⟨rfl, rfl⟩
          clear hnb
          go_wp2
          go_ret
          exact ⟨rfl, same.out⟩
        obtain rfl : o1 = true := by simpa using k1
        by_cases k2 : o2 = false
        · subst k2
          rw [if_pos (.inr (.inl rfl))] at hx
          subst hx
          simp only [show ¬ ((4 : Int) = 0) from by omega, if_false] at hy
          subst hy
          go_enter Tryd.func47, Tryd.ntmps47
          go_wp2_with fail
          refine hna.mono ?_
          rintro e w1 ⟨rfl, rfl⟩
          clear hna
          go_wp2_with fail
          refine hnb.mono ?_
          rintro e w2 ⟨rfl, rfl⟩
          clear hnb
          go_wp2
          go_ret
          exact ⟨rfl, same.out⟩
        obtain rfl : o2 = true := by simpa using k2
        clear k1 k2
        by_cases k3 : x1 < 0
        · rw [if_pos (.inr (.inr (.inl k3)))] at hx
          subst hx
          simp only [show ¬ ((4 : Int) = 0) from by omega, if_false] at hy
          subst hy
          go_enter Tryd.func47, Tryd.ntmps47
          go_wp2_with fail
          refine hna.mono ?_
          rintro e w1 ⟨rfl, rfl⟩
          clear hna
          go_wp2_with fail
          refine hnb.mono ?_
          rintro e w2 ⟨rfl, rfl⟩
          clear hnb
          go_wp2
          go_ret
          exact ⟨rfl, same.out⟩
        by_cases k4 : x2 < 0
        · rw [if_pos (.inr (.inr (.inr k4)))] at hx
          subst hx
          simp only [show ¬ ((4 : Int) = 0) from by omega, if_false] at hy
          subst hy
          go_enter Tryd.func47, Tryd.ntmps47
          go_wp2_with fail
          refine hna.mono ?_
          rintro e w1 ⟨rfl, rfl⟩
          clear hna
          go_wp2_with fail
          refine hnb.mono ?_
          rintro e w2 ⟨rfl, rfl⟩
          clear hnb
          go_wp2
          go_ret
          exact ⟨rfl, same.out⟩
        rw [if_neg (by simp [k3, k4])] at hx
        by_cases k5 : 1048576 < x1
        · rw [if_pos k5] at hx
          subst hx
          simp only [show ¬ ((3 : Int) = 0) from by omega, if_false] at hy
          subst hy
          go_enter Tryd.func47, Tryd.ntmps47
          go_wp2_with fail
          refine hna.mono ?_
          rintro e w1 ⟨rfl, rfl⟩
          clear hna
          go_wp2_with fail
          refine hnb.mono ?_
          rintro e w2 ⟨rfl, rfl⟩
          clear hnb
          go_wp2
          go_ret
          exact ⟨rfl, same.out⟩
        rw [if_neg k5] at hx
        by_cases k6 : 1048576 < x2
        · rw [if_pos k6] at hx
          subst hx
          simp only [show ¬ ((5 : Int) = 0) from by omega, if_false] at hy
          subst hy
          go_enter Tryd.func47, Tryd.ntmps47
          go_wp2_with fail
          refine hna.mono ?_
          rintro e w1 ⟨rfl, rfl⟩
          clear hna
          go_wp2_with fail
          refine hnb.mono ?_
          rintro e w2 ⟨rfl, rfl⟩
          clear hnb
          go_wp2
          go_ret
          exact ⟨rfl, same.out⟩
        rw [if_neg k6] at hx
        subst hx
        simp only [if_true] at hy
        subst hy
        obtain ⟨h1, h2, h3, vc, vk, us, hb, hus, hoc, hin, hok⟩ := hrd
        have c0 := hb.cell 0; have c1 := hb.cell 1; have c2 := hb.cell 2; have c4 := hb.cell 4
        unfold rcells at c0 c1 c2 c4
        simp only [List.getElem?_toArray, List.getElem?_cons_zero, List.getElem?_cons_succ] at c0 c1 c2 c4
        have f1 := hb.frozen 1; have f2 := hb.frozen 2; have f4 := hb.frozen 4
        have hend : Rd (((W.setCell ⟨R, 1, none⟩ (.bool true)).setCell ⟨R, 2, none⟩ (.int .i64 x1)).setCell ⟨R, 4, none⟩ (.int .i64 x2)) R B C { r with header := true, vars := x1, left := x2 } := by
          have hb' := ((hb.set 1 (.bool true)).set 2 (.int .i64 x1)).set 4 (.int .i64 x2)
          have hset : ∀ {base n : Nat} {e : TypeId} {v : Value} {xs : List Value}, R < base → W.ownsRow base e 1 v n xs → (((W.setCell ⟨R, 1, none⟩ (.bool true)).setCell ⟨R, 2, none⟩ (.int .i64 x1)).setCell ⟨R, 4, none⟩ (.int .i64 x2)).ownsRow base e 1 v n xs :=
            fun hlt hx => ownsRow_setCell_below (ownsRow_setCell_below (ownsRow_setCell_below hx (a := ⟨R, 1, none⟩) hlt _) (a := ⟨R, 2, none⟩) hlt _) (a := ⟨R, 4, none⟩) hlt _
          refine ⟨h1, h2, by simpa [World.setCell] using h3, vc, vk, us, by simpa [rcells] using hb', hus, hset h1 hoc, fun j hj => ⟨hset h1 (hin j hj).1, (hin j hj).2⟩, hset (by omega) hok⟩
        have hkeep : Keep (Chg R B) W (((W.setCell ⟨R, 1, none⟩ (.bool true)).setCell ⟨R, 2, none⟩ (.int .i64 x1)).setCell ⟨R, 4, none⟩ (.int .i64 x2)) :=
          (((Keep.refl _ _).setCell (fun h => h.2 rfl) _).setCell (fun h => h.2 rfl) _).setCell (fun h => h.2 rfl) _
        have hstr : StrKeep W (((W.setCell ⟨R, 1, none⟩ (.bool true)).setCell ⟨R, 2, none⟩ (.int .i64 x1)).setCell ⟨R, 4, none⟩ (.int .i64 x2)) :=
          ((((StrKeep.refl W).set (x := ⟨R, 1, none⟩) hb (by decide) _).set (x := ⟨R, 2, none⟩) (hb.set 1 _) (by decide) _).set (x := ⟨R, 4, none⟩) ((hb.set 1 _).set 2 _) (by decide) _)
        have HE := Lib.hid hend
        have HK := Lib.hid hkeep
        have HS := Lib.hid hstr
        clear hend hkeep hstr hb hus hoc hin hok same hw
        go_enter Tryd.func47, Tryd.ntmps47
        go_wp2_with fail
        refine hna.mono ?_
        rintro e w1 ⟨rfl, rfl⟩
        clear hna
        go_wp2_with fail
        refine hnb.mono ?_
        rintro e w2 ⟨rfl, rfl⟩
        clear hnb
        go_wp2
        go_ret
        exact ⟨rfl, ⟨C, HE.out⟩, HK.out, HS.out⟩
      · have q2 : (b.toList == [99, 110, 102]) = false := by rw [eq_str]; simpa using hbp
        have q2' : (!b.toList == [99, 110, 102]) = true := by rw [q2]; rfl
        rw [if_pos (.inr hbp)] at hx
        subst hx
        simp only [show ¬ ((4 : Int) = 0) from by omega, if_false] at hy
        subst hy
        clear hap hbp hna hnb hws
        go_enter Tryd.func47, Tryd.ntmps47
        go_wp2
        go_ret
        exact ⟨rfl, same.out⟩
    · have q1 : (a.toList == [112]) = false := by rw [eq_str]; simpa using hap
      have q1' : (!a.toList == [112]) = true := by rw [q1]; rfl
      rw [if_pos (.inl hap)] at hx
      subst hx
      simp only [show ¬ ((4 : Int) = 0) from by omega, if_false] at hy
      subst hy
      clear hap hna hnb hws
      go_enter Tryd.func47, Tryd.ntmps47
      go_wp2
      go_ret
      exact ⟨rfl, same.out⟩
  · have h4' : ((ws.length : Int) != 4) = true := by rw [bne_iff_ne]; omega
    have h4'' : ((ws.length : Int) == 4) = false := beq_eq_false_iff_ne.2 (by omega)
    have hxe : x = (0, 0, 4) := by rw [← hx]; unfold headS; rw [if_pos (.inl (by simpa [lst] using h4))]
    subst hxe
    simp only [show ¬ ((4 : Int) = 0) from by omega, if_false] at hy
    subst hy
    clear hx h4 hws
    go_enter Tryd.func47, Tryd.ntmps47
    go_wp2
    go_ret
    exact ⟨rfl, same.out⟩
end L
end Go.Proofs.YtlkhabdpancjjaaDoor
end

/- Contract of the reader's take. -/
section
namespace Go.Proofs.YtlkhabdpancjjaaDoor
open Go.RowKit PA RA
namespace L
open K

/-- Where the reader stands before word k. -/
def TakeRel (R B : Nat) (W : World) (r : RS) (L : List (List UInt8)) (k : Nat) (wr : World) : Prop :=
  ∃ C rk, Wf rk ∧ rk.header = true ∧ Rd wr R B C rk ∧ wordsS r L = wordsS rk (L.drop k) ∧ Keep (Chg R B) W wr ∧ StrKeep W wr
theorem wordsS_cons (r : RS) (w : List UInt8) (ws : List (List UInt8)) : wordsS r (w :: ws) = if (addS r w).2 = 0 then wordsS (addS r w).1 ws else addS r w := rfl
theorem drop_step {α : Type} {L : List α} {k : Nat} (d : α) (h : k < L.length) : L.drop k = L.getD k d :: L.drop (k + 1) := by
  rw [List.getD_eq_getElem?_getD, List.getElem?_eq_getElem h, Option.getD_some]; exact List.drop_eq_getElem_cons h
theorem lst_getD (ws : List ByteArray) (k : Nat) (h : k < ws.length) : (lst ws).getD k [] = (ws.getD k ⟨#[]⟩).data.toList := by
  unfold lst
  rw [List.getD_eq_getElem?_getD, List.getElem?_map, List.getD_eq_getElem?_getD, List.getElem?_eq_getElem h]; rfl

set_option maxRecDepth 100000 in
set_option maxHeartbeats 4000000 in
theorem take_any (R B C bw : Nat) (r : RS) (v : Value) (ws : List ByteArray) (W : World) (hws : ∀ a ∈ ws, a.size ≤ 9223372036854775807) (hwf : Wf r) (hrd : Rd W R B C r) (hw : W.ownsRow bw 9 1 v ws.length (ws.map Value.string)) (hlen : ws.length ≤ 9223372036854775807) :
    Calls Tryd.prog 36 #[.pointer (some ⟨R, 0, none⟩), v] W (REnd R B W (takeS r (lst ws))) := by
  unfold takeS
  by_cases hh : r.header = true
  · rw [if_pos hh]
    obtain ⟨p, cp, rfl⟩ := owns_shape hw
    have c1 : W.cell? ⟨R, 1, none⟩ = some (.bool true) := by
      obtain ⟨_, _, _, vc, vk, us, hb, _⟩ := hrd
      have := hb.cell 1
      unfold rcells at this
      rw [hh] at this
      simpa using this
    obtain ⟨Y, hY⟩ : ∃ Y, wordsS r (lst ws) = Y := ⟨_, rfl⟩
    have hst : TakeRel R B W r (lst ws) 0 W := ⟨C, r, hwf, hh, hrd, by simp, Keep.refl _ _, StrKeep.refl _⟩
    have HST := Lib.hid hst
    have HY := Lib.hid hY
    have HW := Lib.hid hw
    have HWS := Lib.hid hws
    rw [hY]
    clear hst hY hw hws hrd hwf hh
    go_enter Tryd.func36, Tryd.ntmps36
    go_wp2
    go_loopw [6, 7, 18] (fun _ _ i wr => ∃ k : Nat, k ≤ ws.length ∧ i = .int .i64 k ∧ TakeRel R B W r (lst ws) k wr) (fun _ _ i _ => ws.length - (intOf i).toNat)
    case atStart => exact ⟨0, Nat.zero_le _, rfl, HST.out⟩
    case round =>
      obtain ⟨k, hk, rfl, hrel⟩ := hrel
      by_cases hlt : k < ws.length
      · obtain ⟨C', rk, hwf, hh, hrd, hws, hke, hsk⟩ := hrel
        have hown := owns_strkeep HW.out hsk
        have hform := owns_form HW.out (by omega)
        obtain ⟨g, cap, hp, _, _⟩ := hform
        injection hp with hp1 hp2 hp3
        subst hp1 hp3
        clear hp2
        have hc := hown.cellAt k (by omega)
        rw [List.getElem?_map, List.getElem?_eq_getElem hlt, Option.map_some] at hc
        have hd := drop_step [] (L := lst ws) (k := k) (by unfold lst; simpa using hlt)
        rw [lst_getD ws k hlt] at hd
        have hgd : ws.getD k ⟨#[]⟩ = ws[k] := by rw [List.getD_eq_getElem?_getD, List.getElem?_eq_getElem hlt]; rfl
        rw [hgd] at hd
        have hsz := HWS.out ws[k] (List.getElem_mem hlt)
        generalize ws[k] = a at *
        have hadd := add_any R B C' rk a wr hsz hwf hrd
        have hwa := hwf.add hh a.data.toList
        rw [hd] at hws
        rw [wordsS_cons] at hws
        generalize addS rk a.data.toList = q at *
        have HD := Lib.hid hd
        have HH := Lib.hid hh
        have HQ := Lib.hid hws
        have HA := Lib.hid hwa
        have HK := Lib.hid hke
        have HS := Lib.hid hsk
        clear hd hh hws hwa hke hsk hown hrd hwf hgd
        by_cases he : q.2 = 0
        · have he' : (q.2 != 0) = false := by simpa using he
          have HE := Lib.hid he
          clear he
          go_wp2_with fail
          refine hadd.mono ?_
          rintro e w2 ⟨rfl, ⟨C2, hr2⟩, hk2, hs2⟩
          have hnew : TakeRel R B W r (lst ws) (k + 1) w2 := ⟨C2, q.1, HA.out.1, HA.out.2, hr2, by rw [HQ.out, if_pos HE.out], HK.out.trans hk2, HS.out.trans hs2⟩
          have HN := Lib.hid hnew
          clear hadd hr2 hk2 hs2 hnew
          rw [HE.out]
          go_wp2
          go_roundw
          case rel => exact ⟨k + 1, by omega, by go_num, HN.out⟩
          case measure => simp [intOf]; omega
        · have he' : (q.2 != 0) = true := by simpa using he
          have HE := Lib.hid he
          clear he
          go_wp2_with fail
          refine hadd.mono ?_
          rintro e w2 ⟨rfl, ⟨C2, hr2⟩, hk2, hs2⟩
          have hfin : REnd R B W Y (.returned (.int .i64 q.2)) w2 := by
            rw [← HY.out, HQ.out, if_neg HE.out]
            exact ⟨rfl, ⟨C2, hr2⟩, HK.out.trans hk2, HS.out.trans hs2⟩
          have HF := Lib.hid hfin
          clear hadd hr2 hk2 hs2 hfin
          go_wp2
          go_ret
          exact HF.out
      · obtain rfl : k = ws.length := by omega
        have hfin : REnd R B W Y (.returned (.int .i64 0)) wr := by
          obtain ⟨C', rk, hwf, hh, hrd, hws, hke, hsk⟩ := hrel
          have hn : (lst ws).drop ws.length = [] := List.drop_eq_nil_of_le (by unfold lst; simp)
          rw [← HY.out, hws, hn]
          exact ⟨rfl, ⟨C', hrd⟩, hke, hsk⟩
        have HF := Lib.hid hfin
        clear hfin hrel
        go_wp2
        go_ret
        exact HF.out
  · rw [if_neg hh]
    have hbeg := begin_any R B C bw r v ws W hws hrd hw hlen
    have c1 : W.cell? ⟨R, 1, none⟩ = some (.bool false) := by
      obtain ⟨_, _, _, vc, vk, us, hb, _⟩ := hrd
      have := hb.cell 1
      unfold rcells at this
      rw [show r.header = false from by simpa using hh] at this
      simpa using this
    generalize beginS r (lst ws) = Y at *
    obtain ⟨p, cp, rfl⟩ := owns_shape hw
    clear hws hrd hw hh
    go_enter Tryd.func36, Tryd.ntmps36
    go_wp2_with fail
    refine hbeg.mono ?_
    rintro e w2 ⟨rfl, h2, h3, h4⟩
    have HF : Hid ((∃ C, Rd w2 R B C Y.1) ∧ Keep (Chg R B) W w2 ∧ StrKeep W w2) := ⟨h2, h3, h4⟩
    clear h2 h3 h4 hbeg
    go_wp2
    go_ret
    exact ⟨rfl, HF.out⟩
end L
end Go.Proofs.YtlkhabdpancjjaaDoor
end

/- Plain: lines that are no comments, step by step; lengths of words. No program. -/
section
namespace Go.Proofs.PA
open Go.Lib

theorem wgo_len (cur l : List UInt8) : (wgo cur l).length ≤ l.length + 1 := by
  induction l generalizing cur with
  | nil => unfold wgo; split <;> simp
  | cons b r ih =>
    have h1 := ih []
    have h2 := ih (cur ++ [b])
    unfold wgo
    split
    · split <;> simp <;> omega
    · simp; omega
theorem words_len (l : List UInt8) : (words l).length ≤ l.length + 1 := wgo_len [] l
theorem fields_size (s : ByteArray) (p : Nat → Bool) : ∀ a ∈ goFieldsP p s, a.size ≤ s.size := by
  intro a ha
  unfold goFieldsP at ha
  obtain ⟨x, _, rfl⟩ := List.mem_map.1 ha
  rw [ByteArray.size_extract]; omega
theorem dropG {α : Type} {L : List α} {k : Nat} (d : α) (h : k < L.length) : L.drop k = L.getD k d :: L.drop (k + 1) := by
  rw [List.getD_eq_getElem?_getD, List.getElem?_eq_getElem h, Option.getD_some]; exact List.drop_eq_getElem_cons h
theorem content_skip {L : List (List UInt8)} {j : Nat} (h : j < L.length) (hc : words (L.getD j []) = [] ∨ (words (L.getD j [])).head? = some [99]) : contentS j (L.drop j) = contentS ((j + 1 : Nat) : Int) (L.drop (j + 1)) := by
  rw [dropG [] h, contentS, if_pos hc]; rfl
theorem content_take {L : List (List UInt8)} {j : Nat} (h : j < L.length) (hc : ¬ (words (L.getD j []) = [] ∨ (words (L.getD j [])).head? = some [99])) : contentS j (L.drop j) = (((j + 1 : Nat) : Int), words (L.getD j [])) :: contentS ((j + 1 : Nat) : Int) (L.drop (j + 1)) := by
  rw [dropG [] h, contentS, if_neg hc]; rfl
theorem content_end (L : List (List UInt8)) (n : Int) : contentS n (L.drop L.length) = [] := by rw [List.drop_length]; rfl
theorem lgo_le (cur l : List UInt8) : (lgo cur l).length ≤ l.length + 1 := by
  induction l generalizing cur with
  | nil => unfold lgo; split <;> simp
  | cons b r ih =>
    have h1 := ih []
    have h2 := ih (cur ++ [b])
    unfold lgo
    split
    · simp; omega
    · simp; omega
theorem lns_le (l : List UInt8) : (lns l).length ≤ l.length + 1 := lgo_le [] l
theorem line_len {l : List UInt8} {t : List UInt8} (h : t ∈ lns l) : t.length ≤ l.length := by
  have : ∀ (cur l : List UInt8), ∀ t ∈ lgo cur l, t.length ≤ cur.length + l.length := by
    intro cur l
    induction l generalizing cur with
    | nil => intro t ht; unfold lgo at ht; split at ht <;> simp at ht; subst ht; simp
    | cons b r ih =>
      intro t ht
      unfold lgo at ht
      split at ht
      · rcases List.mem_cons.1 ht with rfl | h
        · simp
        · have := ih [] t h; simp at this ⊢; omega
      · have := ih _ t ht; simp at this ⊢; omega
  have := this [] l t h
  simpa using this
end Go.Proofs.PA
end
