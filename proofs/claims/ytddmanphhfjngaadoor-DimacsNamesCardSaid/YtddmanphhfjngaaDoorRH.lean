/- Contract of the reader's take. -/
import Derived.Test.YtddmanphhfjngaaDoorRG
namespace Go.Proofs.YtddmanphhfjngaaDoor
open Go.RowKit PA RA
namespace L
open K

/-- Where the reader stands before word k. -/
def TakeRel (R B : Nat) (W : World) (r : RS) (L : List (List UInt8)) (k : Nat) (wr : World) : Prop :=
  ∃ C rk, Wf rk ∧ rk.header = true ∧ Rd wr R B C rk ∧ wordsS r L = wordsS rk (L.drop k) ∧ Keep (Chg R B) W wr ∧ StrKeep W wr
theorem wordsS_cons (r : RS) (w : List UInt8) (ws : List (List UInt8)) : wordsS r (w :: ws) = if (addS r w).2 = 0 then wordsS (addS r w).1 ws else addS r w := rfl
theorem drop_step {α : Type} {L : List α} {k : Nat} (d : α) (h : k < L.length) : L.drop k = L.getD k d :: L.drop (k + 1) := by
  rw [List.getD_eq_getElem?_getD, List.getElem?_eq_getElem h, Option.getD_some]; exact List.drop_eq_getElem_cons h
theorem lst_getD (ws : List ByteArray) (k : Nat) (h : k < ws.length) : (lst ws).getD k [] = (ws.getD k ⟨#[]⟩).data.toList := by
  unfold lst
  rw [List.getD_eq_getElem?_getD, List.getElem?_map, List.getD_eq_getElem?_getD, List.getElem?_eq_getElem h]; rfl

set_option maxRecDepth 100000 in
set_option maxHeartbeats 4000000 in
theorem take_any (R B C bw : Nat) (r : RS) (v : Value) (ws : List ByteArray) (W : World) (hws : ∀ a ∈ ws, a.size ≤ 9223372036854775807) (hwf : Wf r) (hrd : Rd W R B C r) (hw : W.ownsRow bw 9 1 v ws.length (ws.map Value.string)) (hlen : ws.length ≤ 9223372036854775807) :
    Calls Tryd.prog 36 #[.pointer (some ⟨R, 0, none⟩), v] W (REnd R B W (takeS r (lst ws))) := by
  unfold takeS
  by_cases hh : r.header = true
  · rw [if_pos hh]
    obtain ⟨p, cp, rfl⟩ := owns_shape hw
    have c1 : W.cell? ⟨R, 1, none⟩ = some (.bool true) := by
      obtain ⟨_, _, _, vc, vk, us, hb, _⟩ := hrd
      have := hb.cell 1
      unfold rcells at this
      rw [hh] at this
      simpa using this
    obtain ⟨Y, hY⟩ : ∃ Y, wordsS r (lst ws) = Y := ⟨_, rfl⟩
    have hst : TakeRel R B W r (lst ws) 0 W := ⟨C, r, hwf, hh, hrd, by simp, Keep.refl _ _, StrKeep.refl _⟩
    have HST := Lib.hid hst
    have HY := Lib.hid hY
    have HW := Lib.hid hw
    have HWS := Lib.hid hws
    rw [hY]
    clear hst hY hw hws hrd hwf hh
    go_enter Tryd.func36, Tryd.ntmps36
    go_wp2
    go_loopw [6, 7, 18] (fun _ _ i wr => ∃ k : Nat, k ≤ ws.length ∧ i = .int .i64 k ∧ TakeRel R B W r (lst ws) k wr) (fun _ _ i _ => ws.length - (intOf i).toNat)
    case atStart => exact ⟨0, Nat.zero_le _, rfl, HST.out⟩
    case round =>
      obtain ⟨k, hk, rfl, hrel⟩ := hrel
      by_cases hlt : k < ws.length
      · obtain ⟨C', rk, hwf, hh, hrd, hws, hke, hsk⟩ := hrel
        have hown := owns_strkeep HW.out hsk
        have hform := owns_form HW.out (by omega)
        obtain ⟨g, cap, hp, _, _⟩ := hform
        injection hp with hp1 hp2 hp3
        subst hp1 hp3
        clear hp2
        have hc := hown.cellAt k (by omega)
        rw [List.getElem?_map, List.getElem?_eq_getElem hlt, Option.map_some] at hc
        have hd := drop_step [] (L := lst ws) (k := k) (by unfold lst; simpa using hlt)
        rw [lst_getD ws k hlt] at hd
        have hgd : ws.getD k ⟨#[]⟩ = ws[k] := by rw [List.getD_eq_getElem?_getD, List.getElem?_eq_getElem hlt]; rfl
        rw [hgd] at hd
        have hsz := HWS.out ws[k] (List.getElem_mem hlt)
        generalize ws[k] = a at *
        have hadd := add_any R B C' rk a wr hsz hwf hrd
        have hwa := hwf.add hh a.data.toList
        rw [hd] at hws
        rw [wordsS_cons] at hws
        generalize addS rk a.data.toList = q at *
        have HD := Lib.hid hd
        have HH := Lib.hid hh
        have HQ := Lib.hid hws
        have HA := Lib.hid hwa
        have HK := Lib.hid hke
        have HS := Lib.hid hsk
        clear hd hh hws hwa hke hsk hown hrd hwf hgd
        by_cases he : q.2 = 0
        · have he' : (q.2 != 0) = false := by simpa using he
          have HE := Lib.hid he
          clear he
          go_wp2_with fail
          refine hadd.mono ?_
          rintro e w2 ⟨rfl, ⟨C2, hr2⟩, hk2, hs2⟩
          have hnew : TakeRel R B W r (lst ws) (k + 1) w2 := ⟨C2, q.1, HA.out.1, HA.out.2, hr2, by rw [HQ.out, if_pos HE.out], HK.out.trans hk2, HS.out.trans hs2⟩
          have HN := Lib.hid hnew
          clear hadd hr2 hk2 hs2 hnew
          rw [HE.out]
          go_wp2
          go_roundw
          case rel => exact ⟨k + 1, by omega, by go_num, HN.out⟩
          case measure => simp [intOf]; omega
        · have he' : (q.2 != 0) = true := by simpa using he
          have HE := Lib.hid he
          clear he
          go_wp2_with fail
          refine hadd.mono ?_
          rintro e w2 ⟨rfl, ⟨C2, hr2⟩, hk2, hs2⟩
          have hfin : REnd R B W Y (.returned (.int .i64 q.2)) w2 := by
            rw [← HY.out, HQ.out, if_neg HE.out]
            exact ⟨rfl, ⟨C2, hr2⟩, HK.out.trans hk2, HS.out.trans hs2⟩
          have HF := Lib.hid hfin
          clear hadd hr2 hk2 hs2 hfin
          go_wp2
          go_ret
          exact HF.out
      · obtain rfl : k = ws.length := by omega
        have hfin : REnd R B W Y (.returned (.int .i64 0)) wr := by
          obtain ⟨C', rk, hwf, hh, hrd, hws, hke, hsk⟩ := hrel
          have hn : (lst ws).drop ws.length = [] := List.drop_eq_nil_of_le (by unfold lst; simp)
          rw [← HY.out, hws, hn]
          exact ⟨rfl, ⟨C', hrd⟩, hke, hsk⟩
        have HF := Lib.hid hfin
        clear hfin hrel
        go_wp2
        go_ret
        exact HF.out
  · rw [if_neg hh]
    have hbeg := begin_any R B C bw r v ws W hws hrd hw hlen
    have c1 : W.cell? ⟨R, 1, none⟩ = some (.bool false) := by
      obtain ⟨_, _, _, vc, vk, us, hb, _⟩ := hrd
      have := hb.cell 1
      unfold rcells at this
      rw [show r.header = false from by simpa using hh] at this
      simpa using this
    generalize beginS r (lst ws) = Y at *
    obtain ⟨p, cp, rfl⟩ := owns_shape hw
    clear hws hrd hw hh
    go_enter Tryd.func36, Tryd.ntmps36
    go_wp2_with fail
    refine hbeg.mono ?_
    rintro e w2 ⟨rfl, h2, h3, h4⟩
    have HF : Hid ((∃ C, Rd w2 R B C Y.1) ∧ Keep (Chg R B) W w2 ∧ StrKeep W w2) := ⟨h2, h3, h4⟩
    clear h2 h3 h4 hbeg
    go_wp2
    go_ret
    exact ⟨rfl, HF.out⟩
end L
end Go.Proofs.YtddmanphhfjngaaDoor
