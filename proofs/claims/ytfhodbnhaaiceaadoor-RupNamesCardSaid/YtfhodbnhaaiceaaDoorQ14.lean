/- Several texts, joined. -/
import Derived.Test.YtfhodbnhaaiceaaDoorQ13

/- Contract of watch: a clause begins to be watched. -/
section
namespace Go.Proofs.YtfhodbnhaaiceaaDoor
open Go.RowKit Go.Conc
namespace L
set_option maxRecDepth 100000
open K

set_option maxHeartbeats 2000000 in
theorem watch_any {w : World} {p : Bl} {al : Nat → Value} {N : Nat} {vs : Int → Value} {s : U.St} (h : Mem w p al N vs s) {i : Nat} (hi : i < p.M) (c : List Int) (hc : ∀ W, Below p.B w W → Ints W (al i) c) (hv : ∀ x ∈ c, x ≠ 0 ∧ x.natAbs ≤ p.n)
    (hnx : s.nx i ≤ c.length) (hN : N + 2 < maxLen) (hW : ∀ z, (s.W z).length ≤ 1048576) (hdm : ∀ x : Int, x ≠ 0 → s.kn x.natAbs = 0 ∨ s.kn x.natAbs = x ∨ s.kn x.natAbs = -x) (hrm : ∀ x : Int, x ≠ 0 → x.natAbs ≤ p.n → s.kn x.natAbs = 0 → s.q.length < p.n) :
    Calls Tryd.prog 60 #[.pointer (some ⟨p.pb, 0, none⟩), .int .i64 i] w fun e w' => ∃ vs', e = .returned (.bool (U.watch s i c).1) ∧ Mem w' p al (N + 2) vs' (U.watch s i c).2 ∧ Below p.B w w' := by
  have hB : p.B ≤ w.heap.size := by have := h.ord; have := h.siz; omega
  have hz : ∀ x ∈ c, x ≠ 0 := fun x hx => (hv x hx).1
  have S1 := U.seek_spec s i c 0 hz hnx
  have hcl := h.c.2.2.1
  have hlim := h.lim
  have hs1 := seek_any h hi (j := i * 4) (by omega) c hc (fun x hx => (hv x hx).2) hnx 0
  have hMl : (i : Int) < (p.M : Int) := by omega
  obtain ⟨a, ea⟩ : ∃ a, U.seekR s i c 0 = a := ⟨_, rfl⟩
  obtain ⟨s1, es1⟩ : ∃ s1, U.seekS s i c 0 = s1 := ⟨_, rfl⟩
  rw [ea, es1] at hs1 S1
  have k1 : s1.kn = s.kn ∧ s1.q = s.q ∧ s1.W = s.W := by rw [← es1]; exact ⟨rfl, rfl, rfl⟩
  have HC := Lib.hid hc
  clear hc
  by_cases ha : a = 0
  · have ew : U.watch s i c = (false, s1) := by simp only [U.watch]; rw [if_pos (ea.trans ha), es1]
    rw [ew]
    clear ew S1 h hv hz hnx hN hW hdm hrm ea es1 k1 hB
    subst ha
    go_enter Tryd.func60, Tryd.ntmps60
    go_wp2_with fail
    refine hs1.mono ?_
    rintro e w1 ⟨rfl, hm1, hb1⟩
    refine Hid.out ?_
    refine Lib.hid ?_
    have HM := Lib.hid hm1
    have HB := Lib.hid hb1
    clear hm1 hb1 hs1
    go_wp2
    go_ret
    exact ⟨vs, rfl, ⟨HM.out.ord, HM.out.dif, HM.out.siz, HM.out.lim, HM.out.box, HM.out.kno, HM.out.que, HM.out.cla, HM.out.map.mono (by omega), HM.out.row, HM.out.apt⟩, HB.out⟩
  · obtain ⟨hac, _, _, hnf, hle1, _, _⟩ := S1.resolve_left (fun h1 => ha h1.1)
    have S2 := U.seek_spec s1 i c a hz hle1
    obtain ⟨b, eb⟩ : ∃ b, U.seekR s1 i c a = b := ⟨_, rfl⟩
    obtain ⟨s2, es2⟩ : ∃ s2, U.seekS s1 i c a = s2 := ⟨_, rfl⟩
    rw [eb, es2] at S2
    have k2 : s2.kn = s.kn ∧ s2.q = s.q ∧ s2.W = s.W := by rw [← es2]; exact k1
    have hs2 : ∀ W, Mem W p al N vs s1 → Below p.B w W → Calls Tryd.prog 71 #[.pointer (some ⟨p.pb, 0, none⟩), .pointer (some ⟨p.cb, i * 4, none⟩), .int .i64 a] W fun e w' => e = .returned (.int .i64 b) ∧ Mem w' p al N vs s2 ∧ Below p.B W w' := fun W hm hb => by
      have := seek_any hm hi (j := i * 4) (by omega) c (fun W' hb' => HC.out W' (hb.trans hb')) (fun x hx => (hv x hx).2) hle1 a
      rw [eb, es2] at this
      exact this
    have HS2 := Lib.hid hs2
    have hab := hv a hac
    have ha' : (a == (0 : Int)) = false := by simp [ha]
    by_cases hb0 : b = 0
    · have ew : U.watch s i c = U.learn s2 a := by simp only [U.watch, ea, es1, eb, es2]; rw [if_neg ha, if_pos hb0]
      rw [ew]
      have hl : ∀ W, Mem W p al N vs s2 → Calls Tryd.prog 59 #[.pointer (some ⟨p.pb, 0, none⟩), .int .i64 a] W fun e w' => e = .returned (.bool (U.learn s2 a).1) ∧ Mem w' p al N vs (U.learn s2 a).2 ∧ Below p.B W w' := fun W hm =>
        learn_any hm a ha hab.2 (by rw [k2.1]; exact hdm a ha) (by rw [k2.1, k2.2.1]; exact hrm a ha hab.2)
      have HL := Lib.hid hl
      generalize U.learn s2 a = r at *
      obtain ⟨r1, r2⟩ := r
      clear ew S1 S2 h hv hz hnx hN hW hdm hrm ea es1 k1 k2 hB hl hs2 eb es2 hac hnf hle1 ha hab
      subst hb0
      go_enter Tryd.func60, Tryd.ntmps60
      go_wp2_with fail
      refine hs1.mono ?_
      rintro e w1 ⟨rfl, hm1, hb1⟩
      refine Hid.out ?_
      refine Lib.hid ?_
      have HM := Lib.hid hm1
      have HB := Lib.hid hb1
      clear hm1 hb1 hs1
      go_wp2_with fail
      refine (HS2.out w1 HM.out HB.out).mono ?_
      rintro e w2 ⟨rfl, hm2, hb2⟩
      refine Hid.out ?_
      refine Lib.hid ?_
      have HM2 := Lib.hid hm2
      have HB2 := Lib.hid hb2
      clear hm2 hb2
      go_wp2_with fail
      refine (HL.out w2 HM2.out).mono ?_
      rintro e w3 ⟨rfl, hm3, hb3⟩
      refine Hid.out ?_
      refine Lib.hid ?_
      have HM3 := Lib.hid hm3
      have HB3 := Lib.hid hb3
      clear hm3 hb3
      go_wp2
      go_ret
      exact ⟨vs, rfl, ⟨HM3.out.ord, HM3.out.dif, HM3.out.siz, HM3.out.lim, HM3.out.box, HM3.out.kno, HM3.out.que, HM3.out.cla, HM3.out.map.mono (by omega), HM3.out.row, HM3.out.apt⟩, HB.out.trans (HB2.out.trans HB3.out)⟩
    · obtain ⟨hbc, _, hba, _, _, _, _⟩ := S2.resolve_left (fun h1 => hb0 h1.1)
      have hbb := hv b hbc
      have hb' : (b == (0 : Int)) = false := by simp [hb0]
      obtain ⟨s3, es3⟩ : ∃ s3 : U.St, { s2 with b0 := U.upd s2.b0 i a, b1 := U.upd s2.b1 i b } = s3 := ⟨_, rfl⟩
      have ew : U.watch s i c = (true, U.push (U.push s3 i a) i b) := by simp only [U.watch, ea, es1, eb, es2]; rw [if_neg ha, if_neg hb0, es3]
      rw [ew]
      clear ew S1 S2 h hz hnx hdm hrm ea es1 k1 hB hs2 eb hac hnf hle1 ha hb0 hv
      have HW := Lib.hid hW
      clear hW
      go_enter Tryd.func60, Tryd.ntmps60
      go_wp2_with fail
      refine hs1.mono ?_
      rintro e w1 ⟨rfl, hm1, hb1⟩
      refine Hid.out ?_
      refine Lib.hid ?_
      have HM := Lib.hid hm1
      have HB := Lib.hid hb1
      clear hm1 hb1 hs1 hcl
      go_wp2_with fail
      refine (HS2.out w1 HM.out HB.out).mono ?_
      rintro e w2 ⟨rfl, hm2, hb2⟩
      refine Hid.out ?_
      refine Lib.hid ?_
      have HM2 := Lib.hid hm2
      have HB2 := Lib.hid (HB.out.trans hb2)
      obtain ⟨_, _, l2, l3, lf⟩ := hm2.l hi
      have f2 := lf (i * 4 + 2)
      have f3 := lf (i * 4 + 3)
      rw [Nat.mul_comm] at l2 l3
      have hm3 : Mem ((w2.setCell ⟨p.cb, i * 4 + 2, none⟩ (.int .i64 a)).setCell ⟨p.cb, i * 4 + 2 + 1, none⟩ (.int .i64 b)) p al N vs s3 := by
        have h1 := hm2.setCl (i * 4 + 2) (.int .i64 a) (fun cs hcs => by have := hcs.setB0 i a; rw [Nat.mul_comm] at this; exact this)
        have h2 := h1.setCl (i * 4 + 3) (.int .i64 b) (fun cs hcs => by have := hcs.setB1 i b; rw [Nat.mul_comm] at this; exact this)
        rw [← es3]
        exact h2
      have hb3 : Below p.B w ((w2.setCell ⟨p.cb, i * 4 + 2, none⟩ (.int .i64 a)).setCell ⟨p.cb, i * 4 + 2 + 1, none⟩ (.int .i64 b)) := below_setCell (below_setCell HB2.out hm2.ord.1.2.2.2.1 _) hm2.ord.1.2.2.2.1 _
      have hW3 : s3.W = s.W := by rw [← es3]; exact k2.2.2
      clear hm2 hb2 lf
      go_wp2
      generalize (w2.setCell ⟨p.cb, i * 4 + 2, none⟩ (.int .i64 a)).setCell ⟨p.cb, i * 4 + 2 + 1, none⟩ (.int .i64 b) = w3 at *
      have HMx := Lib.hid hm3
      have HB3 := Lib.hid hb3
      have HLEN : Hid ((s3.W a).length ≤ 1048576) := Lib.hid (by rw [hW3]; exact HW.out a)
      have HLEN2 : Hid (((U.push s3 i a).W b).length ≤ 1048576) := Lib.hid (by simp only [U.push]; rw [U.upd_ne hba, hW3]; exact HW.out b)
      have hai : I64 a := by unfold I64; omega
      have haib : I64 b := by unfold I64; omega
      obtain ⟨i0, hi0, hz0, hz1, hz2⟩ := info_parts info3
      have HN : Hid (N < maxLen) := Lib.hid (by omega)
      have HNb : Hid (N + 1 < maxLen) := Lib.hid (by omega)
      clear hW3 es3 k2 es2 HC HS2 HM HM2 HB HB2 l2 l3 f2 f3 hm3 hb3 hN HW
      have hm3 := HMx.out
      have hc3 := hm3.c.2.2.2
      have hpm := hm3.dif.2.2.2.1
      have hpl : p.pb < w3.heap.size := hm3.box.lt
      have hrow := hm3.row a
      have hlen : (s3.W a).length ≤ 1048576 := HLEN.out
      obtain ⟨T, hT⟩ : ∃ T : Obj, T = .cells #[.int .i64 (i : Int)] 3 := ⟨_, rfl⟩
      have hMA : Mem (w3.alloc T) p al N vs s3 := hm3.below ((Below.refl _ _).alloc (Nat.le_refl _) _)
      have HMA := Lib.hid hMA
      have hlk : (Instr.lookup 97 (.map (some p.mb)) (.int .i64 a) false).run Tryd.prog w3.drew = .ok (vs a) w3.drew := hm3.look hai _ rfl
      have hlkb : (Instr.lookup 97 (.map (some p.mb)) (.int .i64 a) false).run Tryd.prog ((w3.alloc (.cells #[.int .i64 (i : Int)] 3)).drew) = .ok (vs a) ((w3.alloc (.cells #[.int .i64 (i : Int)] 3)).drew) := hm3.look hai _ (Deep.blk_alloc_lt _ _ _ hm3.map.lt)
      have hnb : ∀ k, (vs a).ownBlock = some k → p.R ≤ k ∧ p.pb ≠ k := fun k hk => by have := (hm3.rowlt hk).1; have := hm3.ord.2.1; omega
      have HNB := Lib.hid hnb
      have HROW := Lib.hid hrow
      have HM3 := Lib.hid hm3
      generalize hva : vs a = va at *
      have HVA := Lib.hid hva
      clear hm3 hMA hnb hrow hva
      go_region_held3 (fun w' => w'.cell? ⟨p.pb, 3, none⟩ = some (.map (some p.mb)))
        (first
          | go_keep
          | (exact (hgrow.cell_far ⟨p.pb, 3, none⟩ (by simp; omega) (fun e => (HNB.out _ e.symm).2 rfl)).trans (by assumption))
          | (exact (hg7.cell_far ⟨p.pb, 3, none⟩ (by have := hgrow.size; simp at this ⊢; omega) (fun e => hpm (Option.some.inj e))).trans (by assumption)))
        (first
          | (refine step_append_lies _ (by rfl) _ _ _ (by rfl) p.R 3 i0 _ 1 8 Tryd.underlying23 hi0 hz0 hz1 hz2 rfl (by omega) va (s3.W a).length _ (by rfl) (owns_heap (HROW.out.alloc T) (by rw [hT]; rfl))
              ⟨w3.heap.size, 0, none⟩ 1 1 [.int .i64 (i : Int)] (by rfl) (by rfl) (World.news_of_block (cs := #[.int .i64 (i : Int)]) (t := 3) (fr := (0, 0)) (heap_alloc_new w3 _)) (by simp [Value.oneCell'])
              (by omega) (by unfold maxLen; omega) (by omega) (by have := HM3.out.siz; simp; omega) (w3.heap.size + 1) (by simp) ?_
             intro gg cap w6 hown6 hgrow hat hlt
             obtain ⟨w7, hr7, hm7, hg7⟩ := (HMA.out.heap (w' := (w3.alloc (.cells #[.int .i64 (i : Int)] 3)).drew) (by rw [hT]; rfl)).store hai HN.out i hown6 (by rw [HVA.out]; exact hgrow) (by rfl) (by rw [HVA.out]; exact hat.imp id (fun h => by rw [h]; simp))))
      all_goals (
        obtain ⟨s4, hs4⟩ : ∃ s4, U.push s3 i a = s4 := ⟨_, rfl⟩
        have HB7 := Lib.hid (below_pushed (W := (w3.alloc (.cells #[.int .i64 (i : Int)] 3)).drew) HB3.out HM3.out (.cells #[.int .i64 (i : Int)] 3) rfl rfl rfl rfl (Nat.le_refl _) (by have := HM3.out.ord; have := HM3.out.siz; omega) HVA.out.symm hgrow hg7)
        rw [hs4] at hm7 HLEN2
        have HMy := Lib.hid hm7
        clear hgrow hg7 hr7 hown6 hat hlt HMA HROW HNB hc3 hpm hpl hlen hlk hlkb HM3 HB3 HVA hT
        have haiz := haib
        have HLENz := HLEN2
        have HNz := HNb
        go_wp2
        generalize hvs7 : U.upd vs a _ = vs7 at *
        clear hvs7 hm7
        have hm3z := HMy.out
        have hc3z := hm3z.c.2.2.2
        have hpmz := hm3z.dif.2.2.2.1
        have hplz : p.pb < w7.heap.size := hm3z.box.lt
        have hrowz := hm3z.row b
        have hlenz : (s4.W b).length ≤ 1048576 := HLENz.out
        obtain ⟨Tz, hTz⟩ : ∃ T : Obj, T = .cells #[.int .i64 (i : Int)] 3 := ⟨_, rfl⟩
        have hMAz : Mem (w7.alloc Tz) p al (N + 1) vs7 s4 := hm3z.below ((Below.refl _ _).alloc (Nat.le_refl _) _)
        have HMAz := Lib.hid hMAz
        have hlkz : (Instr.lookup 97 (.map (some p.mb)) (.int .i64 b) false).run Tryd.prog w7.drew = .ok (vs7 b) w7.drew := hm3z.look haiz _ rfl
        have hlkbz : (Instr.lookup 97 (.map (some p.mb)) (.int .i64 b) false).run Tryd.prog ((w7.alloc (.cells #[.int .i64 (i : Int)] 3)).drew) = .ok (vs7 b) ((w7.alloc (.cells #[.int .i64 (i : Int)] 3)).drew) := hm3z.look haiz _ (Deep.blk_alloc_lt _ _ _ hm3z.map.lt)
        have hnbz : ∀ k, (vs7 b).ownBlock = some k → p.R ≤ k ∧ p.pb ≠ k := fun k hk => by have := (hm3z.rowlt hk).1; have := hm3z.ord.2.1; omega
        have HNBz := Lib.hid hnbz
        have HROWz := Lib.hid hrowz
        have HM3z := Lib.hid hm3z
        generalize hvaz : vs7 b = vaz at *
        have HVAz := Lib.hid hvaz
        clear hm3z hMAz hnbz hrowz hvaz
        go_region_held3 (fun w' => w'.cell? ⟨p.pb, 3, none⟩ = some (.map (some p.mb)))
          (first
            | go_keep
            | (exact (hgrowz.cell_far ⟨p.pb, 3, none⟩ (by simp; omega) (fun e => (HNBz.out _ e.symm).2 rfl)).trans (by assumption))
            | (exact (hg7z.cell_far ⟨p.pb, 3, none⟩ (by have := hgrowz.size; simp at this ⊢; omega) (fun e => hpmz (Option.some.inj e))).trans (by assumption)))
          (first
            | (refine step_append_lies _ (by rfl) _ _ _ (by rfl) p.R 3 i0 _ 1 8 Tryd.underlying23 hi0 hz0 hz1 hz2 rfl (by omega) vaz (s4.W b).length _ (by rfl) (owns_heap (HROWz.out.alloc Tz) (by rw [hTz]; rfl))
                ⟨w7.heap.size, 0, none⟩ 1 1 [.int .i64 (i : Int)] (by rfl) (by rfl) (World.news_of_block (cs := #[.int .i64 (i : Int)]) (t := 3) (fr := (0, 0)) (heap_alloc_new w7 _)) (by simp [Value.oneCell'])
                (by omega) (by unfold maxLen; omega) (by omega) (by have := HM3z.out.siz; simp; omega) (w7.heap.size + 1) (by simp) ?_
               intro gg cap w6 hown6 hgrowz hat hlt
               obtain ⟨w7z, hr7, hm7z, hg7z⟩ := (HMAz.out.heap (w' := (w7.alloc (.cells #[.int .i64 (i : Int)] 3)).drew) (by rw [hTz]; rfl)).store haiz HNz.out i hown6 (by rw [HVAz.out]; exact hgrowz) (by rfl) (by rw [HVAz.out]; exact hat.imp id (fun h => by rw [h]; simp))))
        all_goals (
          have HB8 := Lib.hid (below_pushed (W := (w7.alloc (.cells #[.int .i64 (i : Int)] 3)).drew) HB7.out HM3z.out (.cells #[.int .i64 (i : Int)] 3) rfl rfl rfl rfl (Nat.le_refl _) (by have := HM3z.out.ord; have := HM3z.out.siz; omega) HVAz.out.symm hgrowz hg7z)
          rw [← hs4] at hm7z
          have HM8 := Lib.hid hm7z
          clear hgrowz hg7z hr7 hown6 hat hlt HMAz HROWz HNBz hc3z hpmz hplz hlenz hlkz hlkbz HM3z HB7 HVAz hTz hm7z
          go_wp2
          go_ret
          exact ⟨_, rfl, HM8.out, HB8.out⟩))
end L
end Go.Proofs.YtfhodbnhaaiceaaDoor
end
