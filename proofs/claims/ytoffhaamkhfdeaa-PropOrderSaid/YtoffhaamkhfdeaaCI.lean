/- Contract of watchAll. -/
import Derived.Test.YtoffhaamkhfdeaaCH
namespace Go.Proofs.Ytoffhaamkhfdeaa
open Go.RowKit Go.Conc
namespace L
open K

def WAPost (w : World) (p : Bl) (s : U.St) (cs : List (List Int)) (A : List Int) (e : Ending) (w' : World) : Prop :=
  ∃ b s' al' N' vs', e = .returned (.bool b) ∧ Mem w' p al' N' vs' s' ∧ Below p.B w w' ∧ (b = true → U.Inv p.n cs A cs.length 0 [] s' ∧ U.Mono s s' ∧ U.mea p.n s' ≤ U.mea p.n s ∧ N' ≤ 2 * cs.length ∧ ∀ i, i < cs.length → ∀ W, Below p.B w W → Ints W (al' i) (cs.getD i [])) ∧ (b = false → U.Bad cs A)

set_option maxHeartbeats 2000000 in
theorem watchAll_any {w w0 : World} {p : Bl} {al : Nat → Value} {vs : Int → Value} {s : U.St} {cs : List (List Int)} {A : List Int} (h : Mem w p al 0 vs s) (hI : U.Inv p.n cs A 0 0 [] s) (v : Value) (hw0 : w0.heap.size = p.B) (hb0 : Below p.B w0 w) (hL : Lists w0 v cs) (hM : p.M = cs.length)
    (hv : ∀ c ∈ cs, U.Val p.n c) :
    Calls Try.prog 28 #[.pointer (some ⟨p.pb, 0, none⟩), v] w (WAPost w p s cs A) := by
  obtain ⟨pp, cap, rfl, hcap, hlim, hcell⟩ := hL
  have hel : Hid (∀ j, j < cs.length → ∃ b off u, pp = some ⟨b, off, none⟩ ∧ (∀ W, Below p.B w W → W.cell? ⟨b, off + j, none⟩ = some u ∧ Ints W u (cs.getD j []))) := Lib.hid fun j hj => by
    obtain ⟨b, off, e, hc⟩ := hcell (by omega)
    obtain ⟨u, hu, hi⟩ := hc j hj
    refine ⟨b, off, u, e, fun W hW => ?_⟩
    have hbW : Below w0.heap.size w0 W := by rw [hw0]; exact hb0.trans hW
    exact ⟨(hbW.cell (p := ⟨b, off + j, none⟩) (World.block_lt_of_cell? _ _ hu)).trans hu, hi.below hbW⟩
  have HV := Lib.hid hv
  have HM := Lib.hid h
  have HI := Lib.hid hI
  have hlm := h.lim.2
  have hcl : cs.length ≤ 1048576 := by omega
  have HMM := Lib.hid hM
  clear hv h hI hcell hb0 hw0 hM
  go_enter Try.func28, Try.ntmps28
  go_wp2
  go_loopw [9] (fun i wr => ∃ (k : Nat) (s' : U.St) (al' : Nat → Value) (N' : Nat) (vs' : Int → Value), k ≤ cs.length ∧ i = .int .i64 k ∧ Mem wr p al' N' vs' s' ∧ Below p.B w wr ∧ U.Inv p.n cs A k 0 [] s' ∧ U.Mono s s' ∧ U.mea p.n s' ≤ U.mea p.n s ∧ N' ≤ 2 * k ∧ (∀ i, i < k → ∀ W, Below p.B w W → Ints W (al' i) (cs.getD i []))) (fun i _ => cs.length - (intOf i).toNat)
  case atStart => exact ⟨0, s, al, 0, vs, Nat.zero_le _, rfl, HM.out, Below.refl _ _, HI.out, U.Mono.refl _, Nat.le_refl _, Nat.le_refl _, fun j hj => absurd hj (Nat.not_lt_zero _)⟩
  case round =>
    obtain ⟨k, s', al', N', vs', hkl, rfl, hm, hb, hi, hmo, hmea, hN, hal⟩ := hrel
    have HM1 := Lib.hid hm
    have HB1 := Lib.hid hb
    have HI1 := Lib.hid hi
    have HMO := Lib.hid hmo
    have HE := Lib.hid hmea
    have HN := Lib.hid hN
    have HAL := Lib.hid hal
    clear hmo hmea hN hal
    by_cases hlt : k < cs.length
    · have hlt' : (k : Int) < (cs.length : Int) := by omega
      have hkM : k < p.M := by rw [HMM.out]; exact hlt
      have hkM' : (k : Int) < (p.M : Int) := by omega
      obtain ⟨b, off, u, rfl, hu⟩ := hel.out k hlt
      obtain ⟨qq, cu, rfl, _⟩ := (hu wr hb).2
      generalize (cs.getD k []).length = lc at hu
      have hx := (hu wr hb).1
      have HU := Lib.hid hu
      obtain ⟨_, _, hcl2, _⟩ := hm.c
      obtain ⟨l0, _, _, _, lf⟩ := hm.l hkM
      have f0 := lf (k * 4)
      rw [Nat.mul_comm] at l0
      obtain ⟨u, eu⟩ : ∃ u, Value.slice qq lc cu = u := ⟨_, rfl⟩
      rw [eu] at HU hu
      have hm2 : Mem (wr.setCell ⟨p.cb, k * 4, none⟩ u) p (U.upd al' k u) N' vs' s' := by
        have h1 := hm.setCl (k * 4) u (fun cs hcs => by have := hcs.setAl k u; rw [Nat.mul_comm] at this; exact this)
        exact h1
      have hb2 : Below p.B w (wr.setCell ⟨p.cb, k * 4, none⟩ u) := below_setCell hb hm.ord.1.2.2.2.1 _
      have hmem : cs.getD k [] ∈ cs := by rw [List.getD, List.getElem?_eq_getElem hlt]; exact List.getElem_mem hlt
      have hval := HV.out _ hmem
      have hc := watch_any hm2 hkM (cs.getD k []) (fun W hW => by rw [U.upd_same]; exact (hu W (hb2.trans hW)).2) hval (by rw [hi.new k (Nat.le_refl _)]; exact Nat.zero_le _) (by have := HN.out; unfold maxLen; omega)
        (fun z => Nat.le_trans (hi.wlen z) (by omega)) (fun x hx => dom_cases hi x hx) (fun x hx hn h0 => hi.room hx hn h0)
      have HWI := Lib.hid (U.watch_inv hi hlt hval)
      have HB2 := Lib.hid hb2
      rw [← eu] at hc HB2
      have HEU := Lib.hid eu
      clear hm hb hi hu lf hm2 hmem hval hb2 eu
      by_cases ht : (U.watch s' k (cs.getD k [])).1 = true
      · have HJ := Lib.hid (HWI.out.1 ht)
        rw [ht] at hc
        clear ht
        generalize (U.watch s' k (cs.getD k [])).2 = s2 at *
        go_wp2_with fail
        refine hc.mono ?_
        rintro e w2 ⟨vs2, rfl, hm2, hb2⟩
        refine Hid.out ?_
        refine Lib.hid ?_
        have HM2 := Lib.hid hm2
        have HB3 := Lib.hid (HB2.out.trans hb2)
        clear hm2 hb2 hc hx hcl2 l0 f0
        go_wp2
        go_roundw
        case rel =>
          refine ⟨k + 1, s2, _, _, vs2, by omega, by go_num, HM2.out, HB3.out, HJ.out.1, HMO.out.trans HJ.out.2.1, Nat.le_trans HJ.out.2.2 HE.out, by have := HN.out; omega, fun j hj W hW => ?_⟩
          by_cases e : j = k
          · rw [e, U.upd_same, HEU.out]; exact (HU.out W hW).2
          · rw [U.upd_ne e]; exact HAL.out j (by omega) W hW
        case measure => simp [intOf]; omega
      · have ht' : (U.watch s' k (cs.getD k [])).1 = false := by simpa using ht
        have HJ := Lib.hid (HWI.out.2 ht')
        rw [ht'] at hc
        clear ht ht'
        generalize (U.watch s' k (cs.getD k [])).2 = s2 at *
        go_wp2_with fail
        refine hc.mono ?_
        rintro e w2 ⟨vs2, rfl, hm2, hb2⟩
        refine Hid.out ?_
        refine Lib.hid ?_
        have HM2 := Lib.hid hm2
        have HB3 := Lib.hid (HB2.out.trans hb2)
        clear hm2 hb2 hc hx hcl2 l0 f0
        go_wp2
        go_ret
        unfold WAPost
        exact ⟨false, s2, _, _, vs2, rfl, HM2.out, HB3.out, fun h => absurd h (by simp), fun _ => HJ.out⟩
    · have hlt' : ¬ (k : Int) < (cs.length : Int) := by omega
      have HKE := Lib.hid (show k = cs.length by omega)
      clear hm hb hi
      go_wp2
      go_ret
      unfold WAPost
      exact ⟨true, s', _, _, vs', rfl, HM1.out, HB1.out, fun _ => ⟨by rw [← HKE.out]; exact HI1.out, HMO.out, HE.out, by have := HN.out; have := HKE.out; omega, fun i hi W hW => HAL.out i (by have := HKE.out; omega) W hW⟩, fun h => absurd h (by simp)⟩
end L
end Go.Proofs.Ytoffhaamkhfdeaa
