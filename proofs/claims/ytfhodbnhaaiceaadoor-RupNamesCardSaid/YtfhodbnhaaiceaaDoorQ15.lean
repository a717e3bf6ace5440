/- Several texts, joined. -/
import Derived.Test.YtfhodbnhaaiceaaDoorQ14

/- Contract of leave: a clause is watched from another literal. -/
section
namespace Go.Proofs.YtfhodbnhaaiceaaDoor
open Go.RowKit Go.Conc
namespace L
set_option maxRecDepth 100000
open K

theorem turned_any (s : U.St) (i : Nat) (x : Int) : (U.turned s i x).kn = s.kn ∧ (U.turned s i x).q = s.q ∧ (U.turned s i x).nx = s.nx ∧ (U.turned s i x).W = s.W ∧ ((U.turned s i x).b0 i = s.b0 i ∨ (U.turned s i x).b0 i = s.b1 i) := by
  unfold U.turned
  split
  · exact ⟨rfl, rfl, rfl, rfl, .inr (by simp [U.upd_same])⟩
  · exact ⟨rfl, rfl, rfl, rfl, .inl rfl⟩
theorem mem_more {w : World} {p : Bl} {al : Nat → Value} {N N' : Nat} {vs : Int → Value} {s : U.St} (h : Mem w p al N vs s) (hn : N ≤ N') : Mem w p al N' vs s :=
  ⟨h.ord, h.dif, h.siz, h.lim, h.box, h.kno, h.que, h.cla, h.map.mono hn, h.row, h.apt⟩

set_option maxHeartbeats 2000000 in
theorem leave_any {w : World} {p : Bl} {al : Nat → Value} {N : Nat} {vs : Int → Value} {s : U.St} (h : Mem w p al N vs s) {i : Nat} (hi : i < p.M) (x : Int) (c : List Int) (hc : ∀ W, Below p.B w W → Ints W (al i) c) (hv : ∀ x ∈ c, x ≠ 0 ∧ x.natAbs ≤ p.n)
    (hb0 : s.b0 i ∈ c) (hb1 : s.b1 i ∈ c) (hnx : s.nx i ≤ c.length) (hN : N < maxLen) (hW : ∀ z, (s.W z).length ≤ 1048576) (hdm : ∀ x : Int, x ≠ 0 → s.kn x.natAbs = 0 ∨ s.kn x.natAbs = x ∨ s.kn x.natAbs = -x) (hrm : ∀ x : Int, x ≠ 0 → x.natAbs ≤ p.n → s.kn x.natAbs = 0 → s.q.length < p.n) :
    Calls Tryd.prog 61 #[.pointer (some ⟨p.pb, 0, none⟩), .int .i64 i, .int .i64 x] w fun e w' => ∃ vs', e = .returned (.bool (U.leave s i c x).1) ∧ (Mem w' p al (N + 1) vs' (U.leave s i c x).2 ∧ ∀ z, (U.leave s i c x).2.W z = s.W z → vs' z = vs z) ∧ Below p.B w w' := by
  have hB : p.B ≤ w.heap.size := by have := h.ord; have := h.siz; omega
  have hz : ∀ x ∈ c, x ≠ 0 := fun x hx => (hv x hx).1
  have hcl := h.c.2.2.1
  have hlim := h.lim
  have hMl : (i : Int) < (p.M : Int) := by omega
  obtain ⟨tk, tq, tx, tW, tb⟩ := turned_any s i x
  obtain ⟨s1, es1⟩ : ∃ s1, U.turned s i x = s1 := ⟨_, rfl⟩
  obtain ⟨o, eo⟩ : ∃ o, s1.b0 i = o := ⟨_, rfl⟩
  rw [es1] at tk tq tx tW tb
  have hoc : o ∈ c := by rw [eo] at tb; rcases tb with e | e <;> rw [e] <;> assumption
  have hob := hv o hoc
  obtain ⟨y, ey⟩ : ∃ y, U.seekR s1 i c o = y := ⟨_, rfl⟩
  obtain ⟨s2, es2⟩ : ∃ s2, U.seekS s1 i c o = s2 := ⟨_, rfl⟩
  have S1 := U.seek_spec s1 i c o hz (by rw [tx]; exact hnx)
  rw [ey, es2] at S1
  have k2 : s2.kn = s.kn ∧ s2.q = s.q ∧ s2.W = s.W := by rw [← es2]; exact ⟨tk, tq, tW⟩
  have hs2 : ∀ W, Mem W p al N vs s1 → Below p.B w W → Calls Tryd.prog 71 #[.pointer (some ⟨p.pb, 0, none⟩), .pointer (some ⟨p.cb, i * 4, none⟩), .int .i64 o] W fun e w' => e = .returned (.int .i64 y) ∧ Mem w' p al N vs s2 ∧ Below p.B W w' := fun W hm hb => by
    have := seek_any hm hi (j := i * 4) (by omega) c (fun W' hb' => hc W' (hb.trans hb')) (fun x hx => (hv x hx).2) (by rw [tx]; exact hnx) o
    rw [ey, es2] at this
    exact this
  have HS2 := Lib.hid hs2
  have hT : ∀ W, Mem W p al N vs s1 → Calls Tryd.prog 69 #[.pointer (some ⟨p.pb, 0, none⟩), .int .i64 o] W fun e w' => e = .returned (.bool (decide (s.kn o.natAbs = o))) ∧ Below W.heap.size W w' := fun W hm => by
    have := isT_any hm o hob.2
    rw [tk] at this
    exact this
  have hl : ∀ W, Mem W p al N vs s2 → Calls Tryd.prog 59 #[.pointer (some ⟨p.pb, 0, none⟩), .int .i64 o] W fun e w' => e = .returned (.bool (U.learn s2 o).1) ∧ Mem w' p al N vs (U.learn s2 o).2 ∧ Below p.B W w' := fun W hm =>
    learn_any hm o hob.1 hob.2 (by rw [k2.1]; exact hdm o hob.1) (by rw [k2.1, k2.2.1]; exact hrm o hob.1 hob.2)
  have HL := Lib.hid hl
  have hM := Lib.hid h
  obtain ⟨_, _, l2, l3, lf⟩ := h.l hi
  have f2 := lf (i * 4 + 2)
  have f3 := lf (i * 4 + 2 + 1)
  rw [Nat.mul_comm] at l2 l3
  have ew : U.leave s i c x = if s.kn o.natAbs = o then (true, s1) else if y = 0 then U.learn s2 o else (true, U.push { s2 with b1 := U.upd s2.b1 i y } i y) := by
    simp only [U.leave, es1, eo, ey, es2, tk]
  have HEW := Lib.hid ew
  have HY : Hid (y ≠ 0 → y ∈ c ∧ y ≠ o) := Lib.hid fun h0 => by
    obtain ⟨h1, _, h2, _⟩ := S1.resolve_left (fun h1 => h0 h1.1)
    exact ⟨h1, h2⟩
  have HV := Lib.hid hv
  have HW := Lib.hid hW
  have HK2 := Lib.hid k2
  have HTW := Lib.hid tW
  have HEO := Lib.hid eo
  have HLW : Hid ((U.learn s2 o).2.W = s.W) := Lib.hid (by
    rw [← k2.2.2]
    unfold U.learn U.learnS
    split
    · rfl
    · split <;> rfl)
  -- the world behind the turn
  have HT1 : Hid (s.b0 i = x → Mem ((w.setCell ⟨p.cb, i * 4 + 2, none⟩ (.int .i64 (s.b1 i))).setCell ⟨p.cb, i * 4 + 2 + 1, none⟩ (.int .i64 x)).drew p al N vs s1 ∧ Below p.B w ((w.setCell ⟨p.cb, i * 4 + 2, none⟩ (.int .i64 (s.b1 i))).setCell ⟨p.cb, i * 4 + 2 + 1, none⟩ (.int .i64 x)).drew) := Lib.hid fun e => by
    have h1 := h.setCl (i * 4 + 2) (.int .i64 (s.b1 i)) (fun cs hcs => by have := hcs.setB0 i (s.b1 i); rw [Nat.mul_comm] at this; exact this)
    have h2 := h1.setCl (i * 4 + 3) (.int .i64 x) (fun cs hcs => by have := hcs.setB1 i x; rw [Nat.mul_comm] at this; exact this)
    refine ⟨?_, (below_setCell (below_setCell (Below.refl _ _) h.ord.1.2.2.2.1 _) h.ord.1.2.2.2.1 _).drew⟩
    rw [← es1]
    unfold U.turned
    rw [if_pos e]
    exact h2.heap rfl
  have HT0 : Hid (s.b0 i ≠ x → Mem w p al N vs s1) := Lib.hid fun e => by
    rw [← es1]
    unfold U.turned
    rw [if_neg e]
    exact h
  clear ew S1 hv hb0 hb1 hnx hdm hrm tk tq tx tW tb es1 eo ey es2 k2 hs2 hl h lf hz hoc hc hW
  generalize s.b0 i = v0 at *
  generalize s.b1 i = v1 at *
  obtain ⟨i0, hi0, hz0, hz1, hz2⟩ := info_parts info3
  have HN : Hid (N < maxLen) := Lib.hid hN
  have hob2 := hob.2
  clear hob hN
  by_cases hb : v0 = x
  case' pos =>
    have e1 : (v0 == x) = true := by simp [hb]
    have hm1 := HT1.out hb
    clear HT1 HT0 hb
    go_enter Tryd.func61, Tryd.ntmps61
    rw [← Vc_eq (Code.region 4 _ _)]
    go_wp2
    go_region_with (fail)
    generalize ((w.setCell ⟨p.cb, i * 4 + 2, none⟩ (.int .i64 v1)).setCell ⟨p.cb, i * 4 + 2 + 1, none⟩ (.int .i64 x)).drew = w1 at *
    go_wp2
  case' neg =>
    have e1 : (v0 == x) = false := by simp [hb]
    have HM0 := Lib.hid (HT0.out hb)
    clear HT1 HT0 hb
    go_enter Tryd.func61, Tryd.ntmps61
    rw [← Vc_eq (Code.region 4 _ _)]
    go_wp2
    obtain ⟨w1, hw1⟩ : ∃ W, W = w := ⟨_, rfl⟩
    rw [← hw1]
    have hm1 : Mem w1 p al N vs s1 ∧ Below p.B w w1 := by rw [hw1]; exact ⟨HM0.out, Below.refl _ _⟩
    clear hw1
  all_goals
    clear hcl l2 l3 f2 f3 e1
    have HM1 := Lib.hid hm1.1
    have HB1 := Lib.hid hm1.2
    have c2 : w1.cell? ⟨p.cb, i * 4 + 2, none⟩ = some (.int .i64 o) := by
      have := (hm1.1.l hi).2.2.1
      rw [HEO.out, Nat.mul_comm] at this
      exact this
    have hT1 := hT w1 hm1.1
    clear hm1 hT
    refine Vc_wp ?_
    by_cases hkn : s.kn o.natAbs = o
    · have ew := HEW.out
      rw [if_pos hkn] at ew
      have HE := Lib.hid ew
      rw [decide_eq_true hkn] at hT1
      clear hkn ew
      go_wp2_with fail
      refine hT1.mono ?_
      rintro e w2 ⟨rfl, hb2⟩
      refine Hid.out ?_
      refine Lib.hid ?_
      have HB2 := Lib.hid hb2
      clear hb2 hT1 c2
      go_wp2
      go_ret
      rw [HE.out]
      exact ⟨vs, rfl, ⟨mem_more (HM1.out.below HB2.out) (by omega), fun _ _ => rfl⟩, HB1.out.trans (HB2.out.mono (Nat.le_trans hB HB1.out.size))⟩
    · have ew := HEW.out
      rw [if_neg hkn] at ew
      rw [decide_eq_false hkn] at hT1
      clear hkn
      by_cases hy : y = 0
      · rw [if_pos hy] at ew
        have HE := Lib.hid ew
        clear ew
        subst hy
        go_wp2_with fail
        refine hT1.mono ?_
        rintro e w2 ⟨rfl, hb2⟩
        refine Hid.out ?_
        refine Lib.hid ?_
        have HM2 := Lib.hid (HM1.out.below hb2)
        have HB2 := Lib.hid (HB1.out.trans (hb2.mono (Nat.le_trans hB HB1.out.size)))
        clear hb2 hT1 c2
        go_wp2_with fail
        refine (HS2.out w2 HM2.out HB2.out).mono ?_
        rintro e w3 ⟨rfl, hm3, hb3⟩
        refine Hid.out ?_
        refine Lib.hid ?_
        have HM3 := Lib.hid hm3
        have HB3 := Lib.hid (HB2.out.trans hb3)
        clear hm3 hb3
        generalize U.learn s2 o = r at *
        obtain ⟨r1, r2⟩ := r
        go_wp2_with fail
        refine (HL.out w3 HM3.out).mono ?_
        rintro e w4 ⟨rfl, hm4, hb4⟩
        refine Hid.out ?_
        refine Lib.hid ?_
        have HM4 := Lib.hid hm4
        have HB4 := Lib.hid (HB3.out.trans hb4)
        clear hm4 hb4
        go_wp2
        go_ret
        rw [HE.out]
        exact ⟨vs, rfl, ⟨mem_more HM4.out (by omega), fun _ _ => rfl⟩, HB4.out⟩
      · rw [if_neg hy] at ew
        have hy' : (y == (0 : Int)) = false := by simp [hy]
        obtain ⟨hyc, hyo⟩ := HY.out hy
        have hyb := (HV.out y hyc).2
        obtain ⟨s3, es3⟩ : ∃ s3 : U.St, { s2 with b1 := U.upd s2.b1 i y } = s3 := ⟨_, rfl⟩
        rw [es3] at ew
        have HE := Lib.hid ew
        clear ew
        have hai : I64 y := by unfold I64; omega
        clear hy hyc hyo
        go_wp2_with fail
        refine hT1.mono ?_
        rintro e w2 ⟨rfl, hb2⟩
        refine Hid.out ?_
        refine Lib.hid ?_
        have HM2 := Lib.hid (HM1.out.below hb2)
        have HB2 := Lib.hid (HB1.out.trans (hb2.mono (Nat.le_trans hB HB1.out.size)))
        clear hb2 hT1 c2
        go_wp2_with fail
        refine (HS2.out w2 HM2.out HB2.out).mono ?_
        rintro e w4 ⟨rfl, hm4, hb4⟩
        refine Hid.out ?_
        refine Lib.hid ?_
        have HB4 := Lib.hid (HB2.out.trans hb4)
        obtain ⟨_, _, _, l3, lf⟩ := hm4.l hi
        have f3 := lf (i * 4 + 2 + 1)
        rw [Nat.mul_comm] at l3
        have hm3 : Mem (w4.setCell ⟨p.cb, i * 4 + 2 + 1, none⟩ (.int .i64 y)) p al N vs s3 := by
          have h1 := hm4.setCl (i * 4 + 3) (.int .i64 y) (fun cs hcs => by have := hcs.setB1 i y; rw [Nat.mul_comm] at this; exact this)
          rw [← es3]
          exact h1
        have hb3 : Below p.B w (w4.setCell ⟨p.cb, i * 4 + 2 + 1, none⟩ (.int .i64 y)) := below_setCell HB4.out hm4.ord.1.2.2.2.1 _
        have hW3 : s3.W = s.W := by rw [← es3]; exact HK2.out.2.2
        clear hm4 hb4 lf
        go_wp2
        generalize w4.setCell ⟨p.cb, i * 4 + 2 + 1, none⟩ (.int .i64 y) = w3 at *
        have HMx := Lib.hid hm3
        have HB3 := Lib.hid hb3
        have HLEN : Hid ((s3.W y).length ≤ 1048576) := Lib.hid (by rw [hW3]; exact HW.out y)
        have HW3 := Lib.hid hW3
        clear hW3 es3 HS2 HM2 HB2 HB4 l3 f3 hm3 hb3
        have hm3 := HMx.out
        have hc3 := hm3.c.2.2.2
        have hpm := hm3.dif.2.2.2.1
        have hpl : p.pb < w3.heap.size := hm3.box.lt
        have hrow := hm3.row y
        have hlen : (s3.W y).length ≤ 1048576 := HLEN.out
        obtain ⟨T, hT⟩ : ∃ T : Obj, T = .cells #[.int .i64 (i : Int)] 3 := ⟨_, rfl⟩
        have hMA : Mem (w3.alloc T) p al N vs s3 := hm3.below ((Below.refl _ _).alloc (Nat.le_refl _) _)
        have HMA := Lib.hid hMA
        have hlk : (Instr.lookup 97 (.map (some p.mb)) (.int .i64 y) false).run Tryd.prog w3.drew = .ok (vs y) w3.drew := hm3.look hai _ rfl
        have hlkb : (Instr.lookup 97 (.map (some p.mb)) (.int .i64 y) false).run Tryd.prog ((w3.alloc (.cells #[.int .i64 (i : Int)] 3)).drew) = .ok (vs y) ((w3.alloc (.cells #[.int .i64 (i : Int)] 3)).drew) := hm3.look hai _ (Deep.blk_alloc_lt _ _ _ hm3.map.lt)
        have hnb : ∀ k, (vs y).ownBlock = some k → p.R ≤ k ∧ p.pb ≠ k := fun k hk => by have := (hm3.rowlt hk).1; have := hm3.ord.2.1; omega
        have HNB := Lib.hid hnb
        have HROW := Lib.hid hrow
        have HM3 := Lib.hid hm3
        generalize hva : vs y = va at *
        have HVA := Lib.hid hva
        clear hm3 hMA hnb hrow hva
        go_region_held3 (fun w' => w'.cell? ⟨p.pb, 3, none⟩ = some (.map (some p.mb)))
          (first
            | go_keep
            | (exact (hgrow.cell_far ⟨p.pb, 3, none⟩ (by simp; omega) (fun e => (HNB.out _ e.symm).2 rfl)).trans (by assumption))
            | (exact (hg7.cell_far ⟨p.pb, 3, none⟩ (by have := hgrow.size; simp at this ⊢; omega) (fun e => hpm (Option.some.inj e))).trans (by assumption)))
          (first
            | (refine step_append_lies _ (by rfl) _ _ _ (by rfl) p.R 3 i0 _ 1 8 Tryd.underlying23 hi0 hz0 hz1 hz2 rfl (by omega) va (s3.W y).length _ (by rfl) (owns_heap (HROW.out.alloc T) (by rw [hT]; rfl))
                ⟨w3.heap.size, 0, none⟩ 1 1 [.int .i64 (i : Int)] (by rfl) (by rfl) (World.news_of_block (cs := #[.int .i64 (i : Int)]) (t := 3) (fr := (0, 0)) (heap_alloc_new w3 _)) (by simp [Value.oneCell'])
                (by omega) (by unfold maxLen; omega) (by omega) (by have := HM3.out.siz; simp; omega) (w3.heap.size + 1) (by simp) ?_
               intro gg cap w6 hown6 hgrow hat hlt
               obtain ⟨w7, hr7, hm7, hg7⟩ := (HMA.out.heap (w' := (w3.alloc (.cells #[.int .i64 (i : Int)] 3)).drew) (by rw [hT]; rfl)).store hai HN.out i hown6 (by rw [HVA.out]; exact hgrow) (by rfl) (by rw [HVA.out]; exact hat.imp id (fun h => by rw [h]; simp))))
        all_goals (
          have HB7 := Lib.hid (below_pushed (W := (w3.alloc (.cells #[.int .i64 (i : Int)] 3)).drew) HB3.out HM3.out (.cells #[.int .i64 (i : Int)] 3) rfl rfl rfl rfl (Nat.le_refl _) (by have := HM3.out.ord; have := HM3.out.siz; omega) HVA.out.symm hgrow hg7)
          have HMy := Lib.hid hm7
          clear hgrow hg7 hr7 hown6 hat hlt HMA HROW HNB hc3 hpm hpl hlen hlk hlkb HM3 HB3 HVA hT hm7
          go_wp2
          go_ret
          rw [HE.out]
          refine ⟨_, rfl, ⟨HMy.out, fun z hz => ?_⟩, HB7.out⟩
          by_cases e : z = y
          · subst e
            simp only [U.push, U.upd_same, HW3.out] at hz
            have := congrArg List.length hz
            simp at this
          · rw [U.upd_ne e])
end L
end Go.Proofs.YtfhodbnhaaiceaaDoor
end

/- Contracts of learnAll and watchAll. -/
section
namespace Go.Proofs.YtfhodbnhaaiceaaDoor
open Go.RowKit Go.Conc
namespace L
set_option maxRecDepth 100000
open K

theorem dom_cases {n : Nat} {cs : List (List Int)} {A : List Int} {m : Nat} {x : Int} {rest : List Nat} {s : U.St} (h : U.Inv n cs A m x rest s) (y : Int) (_hy : y ≠ 0) : s.kn y.natAbs = 0 ∨ s.kn y.natAbs = y ∨ s.kn y.natAbs = -y := by
  rcases h.dom y.natAbs with e | ⟨e, _⟩
  · exact .inl e
  · right; omega

def LAPost (w : World) (p : Bl) (al : Nat → Value) (N : Nat) (vs : Int → Value) (s : U.St) (cs : List (List Int)) (A : List Int) (e : Ending) (w' : World) : Prop :=
  ∃ b s', e = .returned (.bool b) ∧ Mem w' p al N vs s' ∧ Below p.B w w' ∧ (b = true → U.Inv p.n cs A 0 0 [] s' ∧ (∀ x ∈ A, s'.kn x.natAbs = x) ∧ U.mea p.n s' ≤ U.mea p.n s) ∧ (b = false → U.Bad cs A)

set_option maxHeartbeats 2000000 in
theorem learnAll_any {w : World} {p : Bl} {al : Nat → Value} {N : Nat} {vs : Int → Value} {s : U.St} {cs : List (List Int)} {A : List Int} (h : Mem w p al N vs s) (hI : U.Inv p.n cs A 0 0 [] s) (v : Value) (hl : ∀ W, Below p.B w W → Ints W v A) (hv : U.Val p.n A)
    (hk : ∀ y : Int, y ≠ 0 → s.kn y.natAbs = y → y ∈ A) :
    Calls Tryd.prog 46 #[.pointer (some ⟨p.pb, 0, none⟩), v] w fun e w' => LAPost w p al N vs s cs A e w' := by
  obtain ⟨pp, cap, rfl, hcap, hlim, _⟩ := hl w (Below.refl _ _)
  have HL := Lib.hid hl
  have HV := Lib.hid hv
  have HK := Lib.hid hk
  have HM := Lib.hid h
  have HI := Lib.hid hI
  clear hl hv h hI hk
  go_enter Tryd.func46, Tryd.ntmps46
  go_wp2
  go_loopw [9] (fun i wr => ∃ (k : Nat) (s' : U.St), k ≤ A.length ∧ i = .int .i64 k ∧ Mem wr p al N vs s' ∧ Below p.B w wr ∧ U.Inv p.n cs A 0 0 [] s' ∧ (∀ j, j < k → s'.kn (A.getD j 0).natAbs = A.getD j 0) ∧ (∀ y : Int, y ≠ 0 → s'.kn y.natAbs = y → y ∈ A) ∧ U.mea p.n s' ≤ U.mea p.n s) (fun i _ => A.length - (intOf i).toNat)
  case atStart => exact ⟨0, s, Nat.zero_le _, rfl, HM.out, Below.refl _ _, HI.out, fun j hj => absurd hj (Nat.not_lt_zero _), HK.out, Nat.le_refl _⟩
  case round =>
    obtain ⟨k, s', hkl, rfl, hm, hb, hi, hj, hk, hmea⟩ := hrel
    have HM1 := Lib.hid hm
    have HB1 := Lib.hid hb
    have HI1 := Lib.hid hi
    have HJ := Lib.hid hj
    have HK1 := Lib.hid hk
    have HE := Lib.hid hmea
    clear hj hk hmea
    by_cases hlt : k < A.length
    · have hlt' : (k : Int) < (A.length : Int) := by omega
      obtain ⟨pp2, cap2, hal2, hcap2, hlim2, hcell0⟩ := HL.out wr hb
      cases hal2
      obtain ⟨b, off, rfl, hcell1⟩ := hcell0 (by omega)
      have hx := hcell1 k hlt
      obtain ⟨x, ex⟩ : ∃ x, A.getD k 0 = x := ⟨_, rfl⟩
      rw [ex] at hx
      have hxA : x ∈ A := by rw [← ex]; exact U.getD_mem hlt
      obtain ⟨x0, xn⟩ := HV.out x hxA
      have hc := learn_any hm x x0 xn (dom_cases hi x x0) (fun h0 => hi.room x0 xn h0)
      have HEX := Lib.hid ex
      have HXA := Lib.hid hxA
      have HX0 := Lib.hid x0
      have HXN := Lib.hid xn
      clear hcell0 hcell1 hm hb hi ex hxA x0 xn
      by_cases ht : (U.learn s' x).1 = true
      · rw [ht] at hc
        obtain ⟨j1, j2, j3, j4, j5, j6⟩ := U.learn_inv HI1.out HX0.out HXN.out (.assume HXA.out) ht
        have J1 := Lib.hid j1
        have J2 := Lib.hid j2
        have J3 := Lib.hid j3
        have J4 := Lib.hid j4
        have HKN : Hid (∀ y : Int, y ≠ 0 → (U.learn s' x).2.kn y.natAbs = y → y ∈ A) := Lib.hid fun y hy e => by
          unfold U.learn at e
          split at e
          · exact HK1.out y hy e
          · split at e
            · exact HK1.out y hy e
            · simp only [U.learnS] at e
              by_cases e2 : y.natAbs = x.natAbs
              · rw [e2, U.upd_same] at e
                rw [← e]; exact HXA.out
              · rw [U.upd_ne e2] at e
                exact HK1.out y hy e
        clear ht j1 j2 j3 j4 j5 j6
        generalize (U.learn s' x).2 = s2 at *
        go_wp2_with fail
        refine hc.mono ?_
        rintro e w2 ⟨rfl, hm2, hb2⟩
        refine Hid.out ?_
        refine Lib.hid ?_
        have HM2 := Lib.hid hm2
        have HB2 := Lib.hid (HB1.out.trans hb2)
        clear hm2 hb2 hc hx
        go_wp2
        go_roundw
        case rel =>
          refine ⟨k + 1, s2, by omega, by go_num, HM2.out, HB2.out, J1.out, fun j hj => ?_, HKN.out, Nat.le_trans J4.out HE.out⟩
          by_cases e : j = k
          · rw [e, HEX.out]; exact J3.out
          · have := HJ.out j (by omega)
            exact J2.out _ (HV.out _ (U.getD_mem (by omega))).1 this
        case measure => simp [intOf]; omega
      · have ht' : (U.learn s' x).1 = false := by simpa using ht
        rw [ht'] at hc
        have hbad : U.Bad cs A := by
          have hF : s'.kn x.natAbs = -x := Classical.byContradiction fun h1 => ht (by
            unfold U.learn
            rw [if_neg h1]
            split <;> rfl)
          exact .inl ⟨x, HXA.out, HK1.out (-x) (by have := HX0.out; omega) (by simpa using hF)⟩
        have HBAD := Lib.hid hbad
        clear ht ht' hbad
        generalize (U.learn s' x).2 = s2 at *
        go_wp2_with fail
        refine hc.mono ?_
        rintro e w2 ⟨rfl, hm2, hb2⟩
        refine Hid.out ?_
        refine Lib.hid ?_
        have HM2 := Lib.hid hm2
        have HB2 := Lib.hid (HB1.out.trans hb2)
        clear hm2 hb2 hc hx
        go_wp2
        go_ret
        unfold LAPost
        exact ⟨false, s2, rfl, HM2.out, HB2.out, fun h => absurd h (by simp), fun _ => HBAD.out⟩
    · have hlt' : ¬ (k : Int) < (A.length : Int) := by omega
      have HKE := Lib.hid (show k = A.length by omega)
      clear hm hb hi
      go_wp2
      go_ret
      unfold LAPost
      refine ⟨true, s', rfl, HM1.out, HB1.out, fun _ => ⟨HI1.out, fun x hx => ?_, HE.out⟩, fun h => absurd h (by simp)⟩
      obtain ⟨j, hj, rfl⟩ := U.mem_at hx
      exact HJ.out j (by have := HKE.out; omega)
end L
end Go.Proofs.YtfhodbnhaaiceaaDoor
end
