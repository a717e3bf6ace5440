/- The queue's pop and advance. -/
import Derived.Test.YtenmgkomffnjaaaHF
import Derived.Deep.RegionHeld3
import Derived.StillTailTactics
namespace Go.Proofs.Ytenmgkomffnjaaa
open Go.RowKit
namespace L
open K HP
set_option maxRecDepth 100000
section
variable {T : TypeId} {lo hi : Nat} {w : World} {s : Spot} {A : List Int} {R : List Nat} {Q : List Int} {M : Nat → Prop}

theorem owns_cut {w : World} {base : Nat} {e : TypeId} {n cap : Nat} {g : Nat} {xs : List Value} (h : w.ownsRow base e 1 (.slice (some ⟨g, 0, none⟩) n cap) n xs) {m : Nat} (hm : m ≤ n) :
    w.ownsRow base e 1 (.slice (some ⟨g, 0, none⟩) m cap) m (xs.take m) := by
  obtain ⟨h0, ⟨h1, _⟩ | ⟨g', cap', cur, h1, hb, hg, hn, hc, hs, ht⟩⟩ := h
  · simp at h1
  · simp only [Value.slice.injEq, Option.some.injEq, Addr.mk.injEq, and_true, true_and] at h1
    obtain ⟨rfl, rfl⟩ := h1
    refine ⟨by rw [List.length_take, h0]; omega, .inr ⟨g, cap, cur, rfl, hb, hg, by omega, hc, hs, ?_⟩⟩
    rw [← ht, List.take_take]
    congr 1
    omega
/-- The tree is cut. -/
theorem mem_cut (h : Mem T lo hi w s A R Q) {n : Nat} (hn : n ≤ R.length) : Mem T lo hi (w.setCell ⟨s.g, 2, none⟩ (.slice (some ⟨s.gt, 0, none⟩) n s.ct)) s A (R.take n) Q := by
  have hl : (R.take n).length = n := by rw [List.length_take]; omega
  have hb := h.box.set 2 (.slice (some ⟨s.gt, 0, none⟩) n s.ct)
  exact { h with
    box := by rw [hl]; exact hb
    all := owns_of_block h.all fun k hk => by cases hk; exact Deep.blk_setCell_other w _ _ _ (fun e => h.ne_ga e.symm)
    tree := by
      rw [hl]
      have := owns_cut (owns_of_block (w' := w.setCell ⟨s.g, 2, none⟩ (.slice (some ⟨s.gt, 0, none⟩) n s.ct)) h.tree fun k hk => by cases hk; exact Deep.blk_setCell_other w _ _ _ (fun e => h.ne_gt e.symm)) hn
      rwa [show (ncells R).take n = ncells (R.take n) by simp [ncells, List.map_take]] at this
    place := owns_of_block h.place fun k hk => by cases hk; exact Deep.blk_setCell_other w _ _ _ (fun e => h.ne_gp e.symm)
    hi_w := by simpa [World.setCell] using h.hi_w }

set_option maxHeartbeats 2000000 in
theorem pop_any (h : Mem T lo hi w s A R Q) (hg : HGood A M R Q) (h0 : 0 < R.length) (hR : R.length ≤ 1048576) :
    Calls Try.prog 33 #[.pointer (some ⟨s.g, 0, none⟩)] w fun e w' => e = .returned (.int .i64 (R.getD 0 0 : Nat)) ∧ (∃ R' Q', Mem T lo hi w' s A R' Q' ∧ HGood A (fun x => M x ∧ x ≠ R.getD 0 0) R' Q' ∧ R'.length + 1 = R.length) ∧ Out lo hi w w' := by
  have hsm := h.small
  have htl := h.treeLen
  have hf := hg.lt h0
  have hmm := fun (w2 : World) (hb : Below w.heap.size w w2) => h.below hb h.hi_w
  have k2 : ∀ x : Later w.heap.size w, x.W.cell? ⟨s.g, 2, none⟩ = some (.slice (some ⟨s.gt, 0, none⟩) R.length s.ct) := fun x => (hmm _ x.ok).box.cell 2
  have k3 : ∀ x : Later w.heap.size w, x.W.cell? ⟨s.gt, 0, none⟩ = some (.int .i64 (R.getD 0 0 : Nat)) := fun x => (hmm _ x.ok).tcell h0
  -- what each world holds
  have step : ∀ wx, Below w.heap.size w wx →
      wx.cell? ⟨s.g, 2, none⟩ = some (.slice (some ⟨s.gt, 0, none⟩) R.length s.ct) ∧ wx.frozen? ⟨s.g, 2, none⟩ = false ∧ wx.cell? ⟨s.gt, R.length - 1, none⟩ = some (.int .i64 (R.getD (R.length - 1) 0 : Nat)) ∧
      Mem T lo hi (wx.setCell ⟨s.g, 2, none⟩ (.slice (some ⟨s.gt, 0, none⟩) (R.length - 1) s.ct)) s A (R.take (R.length - 1)) Q ∧ Out lo hi w (wx.setCell ⟨s.g, 2, none⟩ (.slice (some ⟨s.gt, 0, none⟩) (R.length - 1) s.ct)) := fun wx hb => by
    have hm := hmm wx hb
    exact ⟨hm.box.cell 2, hm.box.frozen 2, hm.tcell (by omega), mem_cut hm (by omega), (Out.of_below hb (Nat.le_refl _)).setCell (p := ⟨s.g, 2, none⟩) h.lo_g h.hi_g _⟩
  have HST := Lib.hid step
  clear step hmm
  have hle : R.length - 1 ≤ 1048576 := by omega
  have hone := fun h1 => hg.pop1 h1
  have hsev := fun h1 => hg.pop h1
  have hln : (R.take (R.length - 1)).length = R.length - 1 := by rw [List.length_take]; omega
  have HONE := Lib.hid hone
  have HSEV := Lib.hid hsev
  have HLN := Lib.hid hln
  clear hone hsev hg h hln
  generalize hfd : R.getD 0 0 = f at *
  generalize hld : R.getD (R.length - 1) 0 = l at *
  have HFD := Lib.hid hfd
  have HLD := Lib.hid hld
  clear hfd hld
  obtain ⟨n, hn⟩ : ∃ n, R.length = n + 1 := ⟨R.length - 1, by omega⟩
  have e1 : R.length - 1 = n := by omega
  rw [e1] at HST HLN hle HSEV
  rw [hn] at k2 htl HST HONE HSEV
  have HN := Lib.hid hn
  clear hn e1 h0 hR
  obtain ⟨sg, sga, sgt, sgp, ca, ct, cp⟩ := s
  simp only at *
  go_enter Try.func33, Try.ntmps33
  go_wp2
  refine wp_region_later (w0 := w) (B := w.heap.size) (by kernel_rfl) (by kernel_rfl) (Below.refl _ _) ?_
  repeat (go_big_quiet_step (fail))
  refine wpQuiet_nil ?_
  rintro _ ⟨x, rfl⟩
  have hx := x.ok
  clear k2 k3
  generalize x.W = wx at *
  obtain ⟨c2, f2, c3, hm, ho⟩ := HST.out wx hx
  have c4 := hm.box.cell 3
  have c5 := hm.pcell hf
  have f5 := hm.place.frozenAt f
  have hm2 := hm.storeP f (-1)
  have ho2 := ho.setCell (p := ⟨sgp, f, none⟩) (hm.place.lt _ rfl).1 hm.hi_p (.int .i64 (-1))
  have HM2 := Lib.hid hm2
  have HO2 := Lib.hid ho2
  clear HST hm ho hm2 ho2 hx
  by_cases hn0 : 0 < n
  · have hsink := sink_any HM2.out l 0 (HSEV.out (by omega)) (by rw [HLN.out]; exact hle)
    have HSINK := Lib.hid hsink
    clear hsink
    go_wp2_with (go_at_call 39; refine (HSINK.out).mono ?_; rintro e w2 ⟨rfl, h1, h2⟩; refine Hid.out ?_)
    have H1 := Lib.hid h1
    have H2 := Lib.hid h2
    clear h1 h2
    refine Lib.hid ?_
    go_wp2
    go_ret
    obtain ⟨R', Q', h1, h2, h3⟩ := H1.out
    exact ⟨rfl, ⟨R', Q', h1, h2, by rw [h3, HLN.out, HN.out]⟩, HO2.out.trans H2.out⟩
  · obtain rfl : n = 0 := by omega
    have hmm := HM2.out
    rw [show R.take 0 = [] from rfl] at hmm
    have H1 := Lib.hid hmm
    clear hmm
    go_wp2
    go_ret
    exact ⟨rfl, ⟨[], _, H1.out, HONE.out (by simp), by rw [HN.out]; rfl⟩, HO2.out⟩

set_option maxHeartbeats 2000000 in
theorem advance_any (h : Mem T lo hi w s A R Q) (hg : HGood A M R Q) (i : Nat) (x : Int) (hi0 : i < A.length) (hx : A.getD i 0 ≤ x) (hR : R.length ≤ 1048576) (hlo : lo ≤ s.ga) :
    Calls Try.prog 32 #[.pointer (some ⟨s.g, 0, none⟩), .int .i64 i, .agg #[.int .i64 ((i : Int) + 1), .int .i64 x]] w fun e w' => e = .returned (.tuple #[]) ∧ (∃ R' Q', Mem T lo hi w' s (A.set i x) R' Q' ∧ HGood (A.set i x) M R' Q' ∧ R'.length = R.length) ∧ Out lo hi w w' := by
  have hsm := h.small
  have hiA : i < (A.set i x).length := by simpa using hi0
  have hla : (A.set i x).length = A.length := by simp
  have hb1 : Below w.heap.size w (w.alloc (.cells #[.int .i64 ((i : Int) + 1), .int .i64 x] 57)) := (Below.refl _ _).alloc (Nat.le_refl _) _
  have hm1 := h.below hb1 h.hi_w
  have y0 : (w.alloc (.cells #[.int .i64 ((i : Int) + 1), .int .i64 x] 57)).cell? ⟨w.heap.size, 0, none⟩ = some (.int .i64 ((i : Int) + 1)) := (Box.new w _ _).cell 0
  have y1 : (w.alloc (.cells #[.int .i64 ((i : Int) + 1), .int .i64 x] 57)).cell? ⟨w.heap.size, 1, none⟩ = some (.int .i64 x) := (Box.new w _ _).cell 1
  have hp : ∀ W, Below w.heap.size w W → W.cell? ⟨s.g, 0, none⟩ = some (.slice (some ⟨s.ga, 0, none⟩) A.length s.ca) ∧ W.cell? ⟨s.ga, i * 2, none⟩ = some (.int .i64 ((i : Int) + 1)) ∧ W.cell? ⟨s.ga, i * 2 + 1, none⟩ = some (.int .i64 (A.getD i 0)) ∧ (∀ j, W.frozen? ⟨s.ga, j, none⟩ = false) ∧
      Mem T lo hi ((W.setCell ⟨s.ga, i * 2, none⟩ (.int .i64 ((i : Int) + 1))).setCell ⟨s.ga, i * 2 + 1, none⟩ (.int .i64 x)) s (A.set i x) R Q ∧ Out lo hi w ((W.setCell ⟨s.ga, i * 2, none⟩ (.int .i64 ((i : Int) + 1))).setCell ⟨s.ga, i * 2 + 1, none⟩ (.int .i64 x)) := fun W hb => by
    have hm := h.below hb h.hi_w
    have hl := hlo
    exact ⟨hm.box.cell 0, hm.acell0 hi0, hm.acell1 hi0, fun j => hm.all.frozenAt j, hm.storeA hi0 x, ((Out.of_below hb (Nat.le_refl _)).setCell (p := ⟨s.ga, i * 2, none⟩) hl hm.hi_a _).setCell (p := ⟨s.ga, i * 2 + 1, none⟩) hl hm.hi_a _⟩
  have HPP := Lib.hid hp
  have hidle := fun hM => hg.idle (x := x) hi0 hM
  have hrs := fun a ha e => hg.raise (x := x) (a := a) hi0 ha e hx
  have hin := fun hM => hg.place_in (i := i) hM
  have hhas := hg.has hi0
  have HIDLE := Lib.hid hidle
  have HRS := Lib.hid hrs
  have HIN := Lib.hid hin
  have HHAS := Lib.hid hhas
  have HRR := Lib.hid hR
  have HIA := Lib.hid hiA
  have HB1 := Lib.hid hb1
  clear hp hm1 hidle hrs hin hhas hg h hR hx hiA hla hb1 hlo
  generalize A.getD i 0 = ai at *
  generalize hA' : A.set i x = A' at *
  have HA' := Lib.hid hA'
  clear hA'
  generalize hn : A.length = n at *
  have HN := Lib.hid hn
  clear hn
  obtain ⟨sg, sga, sgt, sgp, ca, ct, cp⟩ := s
  simp only at *
  go_enter Try.func32, Try.ntmps32
  go_wp2
  obtain ⟨p1, p2, p3, p4, _, _⟩ := HPP.out _ HB1.out
  have p5 := p4 (i * 2)
  have p6 := p4 (i * 2 + 1)
  obtain ⟨w1, hw1⟩ : ∃ W, W = w.alloc (.cells #[.int .i64 ((i : Int) + 1), .int .i64 x] 57) := ⟨_, rfl⟩
  have HPP1 : Hid (∀ W, Below w1.heap.size w1 W → Below w.heap.size w W) := Lib.hid fun W hb => HB1.out.trans (by rw [← hw1]; exact hb.mono (by rw [hw1]; simp))
  have z0 : w1.cell? ⟨w.heap.size, 0, none⟩ = some (.int .i64 ((i : Int) + 1)) := by rw [hw1]; exact y0
  have z1 : w1.cell? ⟨w.heap.size, 1, none⟩ = some (.int .i64 x) := by rw [hw1]; exact y1
  rw [← hw1] at p1 p2 p3 p4 p5 p6 ⊢
  clear hw1 y0 y1 p4
  go_region
  obtain ⟨_, _, _, _, hm0, ho0⟩ := HPP.out _ (HPP1.out w1 (Below.refl _ _))
  have hm := hm0.below (Below.refl _ _).drew hm0.hi_w
  have ho := ho0.trod (Below.refl _ _).drew
  clear hm0 ho0 p1 p2 p3 p5 p6 z0 z1 HPP1 HPP HB1
  generalize ((w1.setCell ⟨sga, i * 2, none⟩ (.int .i64 ((i : Int) + 1))).setCell ⟨sga, i * 2 + 1, none⟩ (.int .i64 x)).drew = w2 at *
  have hha := has_any hm i HIA.out
  have HO := Lib.hid ho
  have HM := Lib.hid hm
  clear ho
  by_cases hMi : M i
  · have e1 : (Q.getD i 0 != -1) = true := HHAS.out.2 hMi
    rw [e1] at hha
    obtain ⟨a, ha, hqa, hra⟩ := HIN.out hMi
    have x3 := hm.box.cell 3
    have t3 := hm.pcell HIA.out
    have hrise := rise_any hm i a (HRS.out a ha hra) HRR.out
    rw [hqa] at t3
    have HRI := Lib.hid hrise
    have HHA := Lib.hid hha
    have hla : A'.length = n := by rw [← HA'.out, List.length_set, HN.out]
    rw [hla] at x3
    have hal : a ≤ 1048576 := by have := HRR.out; omega
    clear hm hrise hha hMi e1 hqa hra hla
    go_wp2_with (first
      | (go_at_call 35; refine (HHA.out).mono ?_; rintro e w3 ⟨rfl, rfl⟩)
      | (go_at_call 38; refine (HRI.out).mono ?_; rintro e w3 ⟨rfl, h1, h2⟩))
    go_end0
    exact ⟨rfl, h1, HO.out.trans h2⟩
  · have e1 : (Q.getD i 0 != -1) = false := by rw [← Bool.not_eq_true]; exact fun e => hMi (HHAS.out.1 e)
    rw [e1] at hha
    have HHA := Lib.hid hha
    have HGI := Lib.hid (HIDLE.out hMi)
    clear hm hha hMi e1
    go_wp2_with (go_at_call 35; refine (HHA.out).mono ?_; rintro e w3 ⟨rfl, rfl⟩)
    go_end0
    exact ⟨rfl, ⟨R, Q, HM.out, HGI.out, rfl⟩, HO.out⟩
end
end L
end Go.Proofs.Ytenmgkomffnjaaa
