/- Several texts, joined. -/
import Derived.Test.YtfhodbnhaaiceaaDoorQ15
import Derived.Test.YtfhodbnhaaiceaaDoorQ02

/- Contract of watchAll. -/
section
namespace Go.Proofs.YtfhodbnhaaiceaaDoor
open Go.RowKit Go.Conc
namespace L
set_option maxRecDepth 100000
open K

def WAPost (w : World) (p : Bl) (s : U.St) (cs : List (List Int)) (A : List Int) (e : Ending) (w' : World) : Prop :=
  ∃ b s' al' N' vs', e = .returned (.bool b) ∧ Mem w' p al' N' vs' s' ∧ Below p.B w w' ∧ (b = true → U.Inv p.n cs A cs.length 0 [] s' ∧ U.Mono s s' ∧ U.mea p.n s' ≤ U.mea p.n s ∧ N' ≤ 2 * cs.length ∧ ∀ i, i < cs.length → ∀ W, Below p.B w W → Ints W (al' i) (cs.getD i [])) ∧ (b = false → U.Bad cs A)

set_option maxHeartbeats 2000000 in
theorem watchAll_any {w w0 : World} {p : Bl} {al : Nat → Value} {vs : Int → Value} {s : U.St} {cs : List (List Int)} {A : List Int} (h : Mem w p al 0 vs s) (hI : U.Inv p.n cs A 0 0 [] s) (v : Value) (hw0 : w0.heap.size = p.B) (hb0 : Below p.B w0 w) (hL : Lists w0 v cs) (hM : p.M = cs.length)
    (hv : ∀ c ∈ cs, U.Val p.n c) :
    Calls Tryd.prog 47 #[.pointer (some ⟨p.pb, 0, none⟩), v] w (WAPost w p s cs A) := by
  obtain ⟨pp, cap, rfl, hcap, hlim, hcell⟩ := hL
  have hel : Hid (∀ j, j < cs.length → ∃ b off u, pp = some ⟨b, off, none⟩ ∧ (∀ W, Below p.B w W → W.cell? ⟨b, off + j, none⟩ = some u ∧ Ints W u (cs.getD j []))) := Lib.hid fun j hj => by
    obtain ⟨b, off, e, hc⟩ := hcell (by omega)
    obtain ⟨u, hu, hi⟩ := hc j hj
    refine ⟨b, off, u, e, fun W hW => ?_⟩
    have hbW : Below w0.heap.size w0 W := by rw [hw0]; exact hb0.trans hW
    exact ⟨(hbW.cell (p := ⟨b, off + j, none⟩) (World.block_lt_of_cell? _ _ hu)).trans hu, hi.below hbW⟩
  have HV := Lib.hid hv
  have HM := Lib.hid h
  have HI := Lib.hid hI
  have hlm := h.lim.2
  have hcl : cs.length ≤ 1048576 := by omega
  have HMM := Lib.hid hM
  clear hv h hI hcell hb0 hw0 hM
  go_enter Tryd.func47, Tryd.ntmps47
  go_wp2
  go_loopw [9] (fun i wr => ∃ (k : Nat) (s' : U.St) (al' : Nat → Value) (N' : Nat) (vs' : Int → Value), k ≤ cs.length ∧ i = .int .i64 k ∧ Mem wr p al' N' vs' s' ∧ Below p.B w wr ∧ U.Inv p.n cs A k 0 [] s' ∧ U.Mono s s' ∧ U.mea p.n s' ≤ U.mea p.n s ∧ N' ≤ 2 * k ∧ (∀ i, i < k → ∀ W, Below p.B w W → Ints W (al' i) (cs.getD i []))) (fun i _ => cs.length - (intOf i).toNat)
  case atStart => exact ⟨0, s, al, 0, vs, Nat.zero_le _, rfl, HM.out, Below.refl _ _, HI.out, U.Mono.refl _, Nat.le_refl _, Nat.le_refl _, fun j hj => absurd hj (Nat.not_lt_zero _)⟩
  case round =>
    obtain ⟨k, s', al', N', vs', hkl, rfl, hm, hb, hi, hmo, hmea, hN, hal⟩ := hrel
    have HM1 := Lib.hid hm
    have HB1 := Lib.hid hb
    have HI1 := Lib.hid hi
    have HMO := Lib.hid hmo
    have HE := Lib.hid hmea
    have HN := Lib.hid hN
    have HAL := Lib.hid hal
    clear hmo hmea hN hal
    by_cases hlt : k < cs.length
    · have hlt' : (k : Int) < (cs.length : Int) := by omega
      have hkM : k < p.M := by rw [HMM.out]; exact hlt
      have hkM' : (k : Int) < (p.M : Int) := by omega
      obtain ⟨b, off, u, rfl, hu⟩ := hel.out k hlt
      obtain ⟨qq, cu, rfl, _⟩ := (hu wr hb).2
      generalize (cs.getD k []).length = lc at hu
      have hx := (hu wr hb).1
      have HU := Lib.hid hu
      obtain ⟨_, _, hcl2, _⟩ := hm.c
      obtain ⟨l0, _, _, _, lf⟩ := hm.l hkM
      have f0 := lf (k * 4)
      rw [Nat.mul_comm] at l0
      obtain ⟨u, eu⟩ : ∃ u, Value.slice qq lc cu = u := ⟨_, rfl⟩
      rw [eu] at HU hu
      have hm2 : Mem (wr.setCell ⟨p.cb, k * 4, none⟩ u) p (U.upd al' k u) N' vs' s' := by
        have h1 := hm.setCl (k * 4) u (fun cs hcs => by have := hcs.setAl k u; rw [Nat.mul_comm] at this; exact this)
        exact h1
      have hb2 : Below p.B w (wr.setCell ⟨p.cb, k * 4, none⟩ u) := below_setCell hb hm.ord.1.2.2.2.1 _
      have hmem : cs.getD k [] ∈ cs := by rw [List.getD, List.getElem?_eq_getElem hlt]; exact List.getElem_mem hlt
      have hval := HV.out _ hmem
      have hc := watch_any hm2 hkM (cs.getD k []) (fun W hW => by rw [U.upd_same]; exact (hu W (hb2.trans hW)).2) hval (by rw [hi.new k (Nat.le_refl _)]; exact Nat.zero_le _) (by have := HN.out; unfold maxLen; omega)
        (fun z => Nat.le_trans (hi.wlen z) (by omega)) (fun x hx => dom_cases hi x hx) (fun x hx hn h0 => hi.room hx hn h0)
      have HWI := Lib.hid (U.watch_inv hi hlt hval)
      have HB2 := Lib.hid hb2
      rw [← eu] at hc HB2
      have HEU := Lib.hid eu
      clear hm hb hi hu lf hm2 hmem hval hb2 eu
      by_cases ht : (U.watch s' k (cs.getD k [])).1 = true
      · have HJ := Lib.hid (HWI.out.1 ht)
        rw [ht] at hc
        clear ht
        generalize (U.watch s' k (cs.getD k [])).2 = s2 at *
        go_wp2_with fail
        refine hc.mono ?_
        rintro e w2 ⟨vs2, rfl, hm2, hb2⟩
        refine Hid.out ?_
        refine Lib.hid ?_
        have HM2 := Lib.hid hm2
        have HB3 := Lib.hid (HB2.out.trans hb2)
        clear hm2 hb2 hc hx hcl2 l0 f0
        go_wp2
        go_roundw
        case rel =>
          refine ⟨k + 1, s2, _, _, vs2, by omega, by go_num, HM2.out, HB3.out, HJ.out.1, HMO.out.trans HJ.out.2.1, Nat.le_trans HJ.out.2.2 HE.out, by have := HN.out; omega, fun j hj W hW => ?_⟩
          by_cases e : j = k
          · rw [e, U.upd_same, HEU.out]; exact (HU.out W hW).2
          · rw [U.upd_ne e]; exact HAL.out j (by omega) W hW
        case measure => simp [intOf]; omega
      · have ht' : (U.watch s' k (cs.getD k [])).1 = false := by simpa using ht
        have HJ := Lib.hid (HWI.out.2 ht')
        rw [ht'] at hc
        clear ht ht'
        generalize (U.watch s' k (cs.getD k [])).2 = s2 at *
        go_wp2_with fail
        refine hc.mono ?_
        rintro e w2 ⟨vs2, rfl, hm2, hb2⟩
        refine Hid.out ?_
        refine Lib.hid ?_
        have HM2 := Lib.hid hm2
        have HB3 := Lib.hid (HB2.out.trans hb2)
        clear hm2 hb2 hc hx hcl2 l0 f0
        go_wp2
        go_ret
        unfold WAPost
        exact ⟨false, s2, _, _, vs2, rfl, HM2.out, HB3.out, fun h => absurd h (by simp), fun _ => HJ.out⟩
    · have hlt' : ¬ (k : Int) < (cs.length : Int) := by omega
      have HKE := Lib.hid (show k = cs.length by omega)
      clear hm hb hi
      go_wp2
      go_ret
      unfold WAPost
      exact ⟨true, s', _, _, vs', rfl, HM1.out, HB1.out, fun _ => ⟨by rw [← HKE.out]; exact HI1.out, HMO.out, HE.out, by have := HN.out; have := HKE.out; omega, fun i hi W hW => HAL.out i (by have := HKE.out; omega) W hW⟩, fun h => absurd h (by simp)⟩
end L
end Go.Proofs.YtfhodbnhaaiceaaDoor
end

/- Contract of run: clauses are looked at until nothing more follows. -/
section
namespace Go.Proofs.YtfhodbnhaaiceaaDoor
open Go.RowKit Go.Conc
namespace L
set_option maxRecDepth 100000
open K

theorem unk_congr {f g : Nat → Int} : ∀ n, (∀ v, v ≤ n → f v = g v) → U.unk f n = U.unk g n
  | 0, _ => rfl
  | n + 1, h => by simp only [U.unk]; rw [unk_congr n (fun v hv => h v (by omega)), h (n + 1) (Nat.le_refl _)]
/-- The measure, as it stands in memory. -/
def meaW (w : World) (p : Bl) : Nat := 2 * U.unk (fun v => intAt w ⟨p.kb, v, none⟩) p.n + (match w.heap[p.qb]? with | some (.chan _ b _ _ _ _) => b.size | _ => 0)
theorem meaW_eq {w : World} {p : Bl} {al : Nat → Value} {N : Nat} {vs : Int → Value} {s : U.St} (h : Mem w p al N vs s) : meaW w p = U.mea p.n s := by
  obtain ⟨a, b, hq⟩ := h.que
  unfold meaW U.mea
  rw [hq, unk_congr (g := s.kn) p.n (fun v hv => by unfold intAt; rw [(h.k hv).1]; rfl)]
  simp

def RunPost (w : World) (p : Bl) (al : Nat → Value) (s : U.St) (cs : List (List Int)) (A : List Int) (e : Ending) (w' : World) : Prop :=
  ∃ b s' N' vs', e = .returned (.bool b) ∧ Mem w' p al N' vs' s' ∧ Below p.B w w' ∧ (b = true → U.Inv p.n cs A cs.length 0 [] s' ∧ s'.q = [] ∧ U.Mono s s') ∧ (b = false → U.Bad cs A)

set_option maxHeartbeats 4000000 in
theorem run_any {w : World} {p : Bl} {al : Nat → Value} {N : Nat} {vs : Int → Value} {s : U.St} {cs : List (List Int)} {A : List Int} (h : Mem w p al N vs s) (hI : U.Inv p.n cs A cs.length 0 [] s) (hM : p.M = cs.length)
    (hv : ∀ c ∈ cs, U.Val p.n c) (hal : ∀ i, i < cs.length → ∀ W, Below p.B w W → Ints W (al i) (cs.getD i [])) (hN : N + U.mea p.n s * 1048576 ≤ 4611686018427387904) :
    Calls Tryd.prog 48 #[.pointer (some ⟨p.pb, 0, none⟩)] w (RunPost w p al s cs A) := by
  have HV := Lib.hid hv
  have HAL := Lib.hid hal
  have HM := Lib.hid h
  have HI := Lib.hid hI
  have HN := Lib.hid hN
  have hlm := h.lim
  have HMM := Lib.hid hM
  have hcs : cs.length ≤ 1048576 := by omega
  clear hv hal h hI hN hM
  go_enter Tryd.func48, Tryd.ntmps48
  rw [← Vc_eq (Code.region 2 _ _)]
  go_wp2
  go_loopw [] (fun wr => ∃ (s' : U.St) (N' : Nat) (vs' : Int → Value), Mem wr p al N' vs' s' ∧ Below p.B w wr ∧ U.Inv p.n cs A cs.length 0 [] s' ∧ N' + U.mea p.n s' * 1048576 ≤ 4611686018427387904 ∧ U.Mono s s') (fun wr => meaW wr p)
  case atStart => exact ⟨s, N, vs, HM.out, Below.refl _ _, HI.out, HN.out, U.Mono.refl _⟩
  case round =>
    obtain ⟨s', N', vs', hm, hb, hi, hN, hmo⟩ := hrel
    have HM1 := Lib.hid hm
    have HB1 := Lib.hid hb
    have HI1 := Lib.hid hi
    have HN1 := Lib.hid hN
    have HMO := Lib.hid hmo
    have hc1 := hm.c.2.1
    obtain ⟨qa, qb, hq⟩ := hm.que
    have hlen := fun ty => run_len_chan (P := Tryd.prog) 95 ty Tryd.underlying95 hq
    cases hqq : s'.q with
    | nil =>
      rw [hqq] at hlen
      have HQ := Lib.hid hqq
      clear hm hb hi hN hmo hq hqq
      go_wp2
      go_ret
      unfold RunPost
      exact ⟨true, s', N', vs', rfl, HM1.out, HB1.out, fun _ => ⟨HI1.out, HQ.out, HMO.out⟩, fun h => absurd h (by simp)⟩
    | cons o r =>
      rw [hqq] at hlen hq
      have hlen2 : ∀ ty, (Builtin.len_ #[95] ty #[.chan (some p.qb)]).run Tryd.prog wr = .ok (.int .i64 ((r.length : Int) + 1)) wr := fun ty => by
        rw [hlen ty]; simp [goInt]
      have hpos : (0 : Int) < (r.length : Int) + 1 := by omega
      have hot := hi.que o (by rw [hqq]; simp)
      have hon : o.natAbs ≤ p.n := by
        rcases hi.dom o.natAbs with e | ⟨_, _, e⟩
        · rw [hot.2] at e; exact absurd e hot.1
        · exact e
      obtain ⟨x, ex⟩ : ∃ x, -o = x := ⟨_, rfl⟩
      have hneg : IntKind.i64.wrap (-o) = x := by simp only [IntKind.wrap_i64]; omega
      have hi2 := hi.pop hqq
      rw [ex] at hi2
      have hm2 := hm.setQ r (buf := (((o :: r).map (Value.int .i64)).toArray).extract 1 (((o :: r).map (Value.int .i64)).toArray).size) (by simp; rw [List.take_of_length_le (by simp)]) qa (qb + 1)
      have hb2 : Below p.B w (wr.setChan p.qb p.n ((((o :: r).map (Value.int .i64)).toArray).extract 1 (((o :: r).map (Value.int .i64)).toArray).size) false qa (qb + 1) false) := below_setChan hb hm.ord.1.2.2.1 _ _ _ _ _ _
      obtain ⟨s2, es2⟩ : ∃ s2 : U.St, { s' with q := r } = s2 := ⟨_, rfl⟩
      rw [es2] at hi2 hm2
      have hme2 : U.mea p.n s2 + 1 = U.mea p.n s' := by rw [← es2]; simp only [U.mea, hqq, List.length_cons]; omega
      have hW2 : s2.W = s'.W := by rw [← es2]
      have hF2 : s2.kn x.natAbs = -x := by rw [← es2, ← ex]; simpa using hot.2
      have hnq2 : -x ∉ s2.q := by rw [← es2, ← ex, Int.neg_neg]; have := hi.nod; rw [hqq] at this; exact (List.nodup_cons.1 this).1
      have hMO2 : U.Mono s' s2 := by rw [← es2]; exact fun y _ e => e
      have hx0 : x ≠ 0 := by have := hot.1; omega
      have hxn : x.natAbs ≤ p.n := by omega
      have hxI : I64 x := by unfold I64; omega
      obtain ⟨L, eL⟩ : ∃ L, s'.W x = L := ⟨_, rfl⟩
      have hWL : s2.W x = L := by rw [hW2]; exact eL
      rw [eL] at hi2
      have hrow := hm2.row x
      rw [hWL] at hrow
      obtain ⟨pp, cx, evx⟩ := owns_shape hrow
      have HVX := Lib.hid evx
      have hlk := fun W hW => hm2.look hxI W hW
      rw [evx] at hlk
      have HLK := Lib.hid hlk
      have hLl : L.length ≤ 1048576 := by rw [← eL]; exact Nat.le_trans (hi.wlen x) hcs
      have HWL := Lib.hid hWL
      have HLE : Hid (∀ i ∈ L, i < cs.length) := Lib.hid fun i hiL => (hi.occ x i (by rw [eL]; exact hiL)).1
      have HLN : Hid L.Nodup := Lib.hid (by rw [← eL]; exact hi.wnd x)
      have HX0 := Lib.hid hx0
      have HI2 := Lib.hid hi2
      have HM2 := Lib.hid hm2
      have HB2 := Lib.hid hb2
      have HME2 := Lib.hid hme2
      have HW2 := Lib.hid hW2
      have HF2 := Lib.hid hF2
      have HNQ2 := Lib.hid hnq2
      have HMO2 := Lib.hid hMO2
      have HMEA := Lib.hid (meaW_eq hm)
      clear hm hb hi hN hmo hqq hlen hot hi2 hm2 hb2 es2 hme2 hW2 hF2 hnq2 hMO2 ex hx0 eL hWL hrow evx hlk hon
      go_wp2
      refine Vc_wp (region_of_ops ?_)
      change OpsWp Tryd.prog _ _ [0, 1, 2, 3, 4, 5, 6] _ _
      refine ops_value (w' := wr) rfl rfl (.pointer (some ⟨p.pb, 0, none⟩)) (by go_simp) ?_
      simp only [Act.put, List.getElem_toArray, List.getElem_cons_zero, List.setIfInBounds_toArray, List.set_cons_zero, List.set_cons_succ]
      refine ops_value (w' := wr) rfl rfl (.pointer (some ⟨p.pb, 0, none⟩)) (by go_simp) ?_
      simp only [Act.put, List.getElem_toArray, List.getElem_cons_succ, List.getElem_cons_zero, List.setIfInBounds_toArray, List.set_cons_zero, List.set_cons_succ]
      refine ops_value (w' := wr) rfl rfl (.pointer (some ⟨p.pb, 1, none⟩)) (by go_simp) ?_
      simp only [Act.put, List.getElem_toArray, List.getElem_cons_succ, List.getElem_cons_zero, List.setIfInBounds_toArray, List.set_cons_zero, List.set_cons_succ]
      refine ops_value (w' := wr) rfl rfl (.chan (some p.qb)) (by go_simp) ?_
      simp only [Act.put, List.getElem_toArray, List.getElem_cons_succ, List.getElem_cons_zero, List.setIfInBounds_toArray, List.set_cons_zero, List.set_cons_succ]
      refine ops_recv (w' := wr) (c := p.qb) (z := .int .i64 0) rfl rfl (by simp [go_sem, rcase]) hq (by simp) ?_
      generalize wr.setChan p.qb p.n ((((o :: r).map (Value.int .i64)).toArray).extract 1 (((o :: r).map (Value.int .i64)).toArray).size) false qa (qb + 1) false = w2 at *
      rw [show (((o :: r).map (Value.int .i64)).toArray).getD 0 undef = .int .i64 o by simp]
      simp only [Act.put, List.getElem_toArray, List.getElem_cons_succ, List.getElem_cons_zero, List.setIfInBounds_toArray, List.set_cons_zero, List.set_cons_succ]
      refine ops_value (w' := w2) rfl rfl (.int .i64 x) (by go_simp) ?_
      simp only [Act.put, List.getElem_toArray, List.getElem_cons_succ, List.getElem_cons_zero, List.setIfInBounds_toArray, List.set_cons_zero, List.set_cons_succ]
      refine ops_value (w' := w2) rfl rfl (.int .i64 x) (by go_simp) (ops_nil ?_)
      simp only [Act.put, List.getElem_toArray, List.getElem_cons_succ, List.getElem_cons_zero, List.setIfInBounds_toArray, List.set_cons_zero, List.set_cons_succ]
      have hlk := HLK.out w2 rfl
      have hc3 := HM2.out.c.2.2.2
      clear hlen2 hpos hneg hq hc1
      go_wp2
      go_loopw [25] (fun i wi => ∃ (k : Nat) (s3 : U.St) (N3 : Nat) (vs3 : Int → Value), k ≤ L.length ∧ i = .int .i64 k ∧ Mem wi p al N3 vs3 s3 ∧ Below p.B w wi ∧ U.Inv p.n cs A cs.length x (L.drop k) s3 ∧ s3.kn x.natAbs = -x ∧ -x ∉ s3.q ∧ s3.W x = L ∧ vs3 x = .slice pp L.length cx ∧ N3 ≤ N' + k ∧ U.mea p.n s3 ≤ U.mea p.n s2 ∧ U.Mono s2 s3) (fun i _ => L.length - (intOf i).toNat)
      case atStart => exact ⟨0, s2, N', vs', Nat.zero_le _, rfl, HM2.out, HB2.out, HI2.out, HF2.out, HNQ2.out, HWL.out, HVX.out, Nat.le_refl _, Nat.le_refl _, U.Mono.refl _⟩
      case round =>
        obtain ⟨k, s3, N3, vs3, hkl, rfl, hm, hb, hi, hF, hnq, hW, hvx, hN3, hme, hmo⟩ := hrel
        have HM3 := Lib.hid hm
        have HB3 := Lib.hid hb
        have HI3 := Lib.hid hi
        have HF3 := Lib.hid hF
        have HNQ3 := Lib.hid hnq
        have HW3 := Lib.hid hW
        have HVX3 := Lib.hid hvx
        have HN3 := Lib.hid hN3
        have HME3 := Lib.hid hme
        have HMO3 := Lib.hid hmo
        by_cases hlt : k < L.length
        · have hlt' : (k : Int) < (L.length : Int) := by omega
          obtain ⟨i, ei⟩ : ∃ i, L.getD k 0 = i := ⟨_, rfl⟩
          have hdrop : L.drop k = i :: L.drop (k + 1) := by
            rw [List.drop_eq_getElem_cons hlt, ← ei]
            simp [List.getD, hlt]
          have hiL : i ∈ L := by rw [← ei, List.getD, List.getElem?_eq_getElem hlt]; exact List.getElem_mem hlt
          have hics := HLE.out i hiL
          have hiM : i < p.M := by rw [HMM.out]; exact hics
          have hrow := hm.row x
          rw [hvx, hW] at hrow
          obtain ⟨g, cp, e, _, _⟩ := hrow.form (by omega)
          cases e
          have hx := hrow.cellAt k (by omega)
          rw [List.getElem?_map, List.getElem?_eq_getElem hlt] at hx
          have e2 : L[k] = i := by rw [← ei]; simp [List.getD, hlt]
          rw [e2] at hx
          simp only [Option.map_some] at hx
          rw [hdrop] at hi
          have hiW : i ∈ s3.W x := by rw [hW]; exact hiL
          have hirr : i ∉ L.drop (k + 1) := by
            have h1 : (L.drop k).Nodup := HLN.out.sublist (List.drop_sublist k L)
            rw [hdrop] at h1
            exact (List.nodup_cons.1 h1).1
          obtain ⟨_, ⟨hs0, hs1, _, hsn, _⟩, _⟩ := hi.occ x i hiW
          have hmem : cs.getD i [] ∈ cs := by rw [List.getD, List.getElem?_eq_getElem hics]; exact List.getElem_mem hics
          have hval := HV.out _ hmem
          have hc := leave_any hm hiM x (cs.getD i []) (fun W hW2 => HAL.out i hics W (hb.trans hW2)) hval hs0 hs1 hsn (by have := HN1.out; unfold maxLen; omega)
            (fun z => Nat.le_trans (hi.wlen z) hcs) (fun y hy => dom_cases hi y hy) (fun y hy hn h0 => hi.room hy hn h0)
          have HLI := Lib.hid (U.leave_inv hi HX0.out hF hnq hirr hiW hval)
          clear hm hb hi hF hnq hW hvx hN3 hme hmo ei hdrop hiL hics hrow e2 hiW hirr hs0 hs1 hsn hmem hval hiM
          generalize hcg : cs.getD i [] = cc at *
          by_cases ht : (U.leave s3 i cc x).1 = true
          · have HJ := Lib.hid (HLI.out.1 ht)
            rw [ht] at hc
            clear ht hcg
            generalize (U.leave s3 i cc x).2 = s4 at *
            go_wp2_with fail
            refine hc.mono ?_
            rintro e w4 ⟨vs4, rfl, ⟨hm4, hv4⟩, hb4⟩
            refine Hid.out ?_
            refine Lib.hid ?_
            have HM4 := Lib.hid hm4
            have HV4 := Lib.hid hv4
            have HB4 := Lib.hid (HB3.out.trans hb4)
            clear hm4 hb4 hc hx hv4
            go_wp2
            go_roundw
            case rel =>
              obtain ⟨j1, j2, j3, j4, j5⟩ := HJ.out
              have jx : s4.kn x.natAbs = -x := by
                have := j2 (-x) (by have := HX0.out; omega) (by simpa using HF3.out)
                simpa using this
              exact ⟨k + 1, s4, N3 + 1, vs4, by omega, by go_num, HM4.out, HB4.out, j1, jx, j4, by rw [j5]; exact HW3.out, by rw [HV4.out x j5]; exact HVX3.out, by have := HN3.out; omega, Nat.le_trans j3 HME3.out, HMO3.out.trans j2⟩
            case measure => simp [intOf]; omega
          · have ht' : (U.leave s3 i cc x).1 = false := by simpa using ht
            have HJ := Lib.hid (HLI.out.2 ht')
            rw [ht'] at hc
            clear ht ht' hcg
            generalize (U.leave s3 i cc x).2 = s4 at *
            go_wp2_with fail
            refine hc.mono ?_
            rintro e w4 ⟨vs4, rfl, ⟨hm4, hv4⟩, hb4⟩
            refine Hid.out ?_
            refine Lib.hid ?_
            have HM4 := Lib.hid hm4
            have HB4 := Lib.hid (HB3.out.trans hb4)
            clear hm4 hb4 hc hx hv4
            go_wp2
            go_ret
            unfold RunPost
            exact ⟨false, s4, _, vs4, rfl, HM4.out, HB4.out, fun h => absurd h (by simp), fun _ => HJ.out⟩
        · have hlt' : ¬ (k : Int) < (L.length : Int) := by omega
          have HKE := Lib.hid (show k = L.length by omega)
          have hmw := meaW_eq hm
          have HMW := Lib.hid hmw
          clear hm hb hi hF hnq hW hvx hN3 hme hmo hmw
          go_wp2
          go_roundw
          case rel =>
            refine ⟨s3, N3, vs3, HM3.out, HB3.out, ?_, ?_, HMO.out.trans (HMO2.out.trans HMO3.out)⟩
            · have h1 := HI3.out
              rw [HKE.out, List.drop_length] at h1
              exact h1.any 0
            · have h1 := HN1.out
              have h2 := HME2.out
              have h3 := HME3.out
              have h4 := HN3.out
              have h5 := HKE.out
              omega
          case measure =>
            rw [HMW.out, HMEA.out]
            have h2 := HME2.out
            have h3 := HME3.out
            omega
end L
end Go.Proofs.YtfhodbnhaaiceaaDoor
end

/- Contracts of lit.Check and lit.Holds. -/
section
namespace Go.Proofs.YtfhodbnhaaiceaaDoor
open Go.RowKit
namespace L
open K

theorem I64.av {x : Int} (_h : I64 x) : 0 ≤ L.av x := by unfold L.av; split <;> omega
theorem mem_getD {l : List Int} {k : Nat} (h : k < l.length) : l.getD k 0 ∈ l := by
  rw [List.getD, List.getElem?_eq_getElem h]; exact List.getElem_mem h

/-- What Check returns. -/
def checkE (n : Int) (c : List Int) : Int :=
  if n < 0 ∨ 1048576 < n then 3 else if 4096 < c.length then 5 else if c.any (fun x => decide (x = 0) || decide (n < av x)) then 3 else 0

theorem any_upto {l : List Int} {p : Int → Bool} {k : Nat} (h : ∀ j, j < k → p (l.getD j 0) = false) (hk : l.length ≤ k) : l.any p = false := by
  rw [List.any_eq_false]
  intro x hx
  obtain ⟨j, hj, rfl⟩ := List.mem_iff_getElem.1 hx
  have := h j (by omega)
  simpa [List.getD, hj] using this
theorem any_at {l : List Int} {p : Int → Bool} {k : Nat} (hk : k < l.length) (h : p (l.getD k 0) = true) : l.any p = true :=
  List.any_eq_true.2 ⟨_, mem_getD hk, h⟩

set_option maxHeartbeats 1000000 in
theorem check_any (n : Int) (v : Value) (l : List Int) (w : World) (hn : I64 n) (hl : ∀ x ∈ l, I64 x) (h : Ints w v l) :
    Calls Tryd.prog 58 #[.int .i64 n, v] w fun e w' => e = .returned (.int .i64 (checkE n l)) ∧ w = w' := by
  obtain ⟨p, c, rfl, hg, hm, hc⟩ := h
  unfold I64 at hn
  by_cases h1 : n < 0
  · have e : checkE n l = 3 := by simp [checkE, h1]
    rw [e]; clear e
    go_enter Tryd.func58, Tryd.ntmps58
    go_wp2
    go_ret
    exact ⟨rfl, rfl⟩
  by_cases h2 : 1048576 < n
  · have e : checkE n l = 3 := by simp [checkE, h2]
    rw [e]; clear e
    go_enter Tryd.func58, Tryd.ntmps58
    go_wp2
    go_ret
    exact ⟨rfl, rfl⟩
  by_cases h3 : 4096 < l.length
  · have e : checkE n l = 5 := by simp [checkE, h1, h2, h3]
    rw [e]; clear e
    go_enter Tryd.func58, Tryd.ntmps58
    go_wp2
    go_ret
    exact ⟨rfl, rfl⟩
  have ec : checkE n l = if l.any (fun x => decide (x = 0) || decide (n < av x)) then 3 else 0 := by simp [checkE, h1, h2, h3]
  have hwn : IntKind.u64.wrap n = n := by simp only [IntKind.wrap_u64]; omega
  have HW := Lib.hid hwn
  clear hwn
  go_enter Tryd.func58, Tryd.ntmps58
  go_wp2
  go_loop [18] (fun i => ∃ k : Nat, k ≤ l.length ∧ i = .int .i64 k ∧ (∀ j, j < k → (decide (l.getD j 0 = 0) || decide (n < av (l.getD j 0))) = false)) (fun i => l.length - (intOf i).toNat)
  case atStart => exact ⟨0, Nat.zero_le _, rfl, fun j hj => absurd hj (Nat.not_lt_zero _)⟩
  case round =>
    obtain ⟨k, hk, rfl, hno⟩ := hrel
    have HE := Lib.hid hno
    have HC := Lib.hid ec
    clear hno ec
    by_cases hlt : k < l.length
    · obtain ⟨b1, o1, rfl, e1⟩ := hc (by omega)
      have d1 := e1 k hlt
      have hx64 := hl _ (mem_getD hlt)
      have HA := Lib.hid (fun h => any_at (p := fun x => decide (x = 0) || decide (n < av x)) hlt h)
      clear hc e1 hl
      generalize hx1 : l.getD k 0 = x at d1 hx64 HA
      have HX1 := Lib.hid hx1
      clear hx1
      by_cases hx0 : x = 0
      · have hb0 : (x == 0) = true := by simp [hx0]
        have HX0 := Lib.hid hx0
        clear hx0
        go_wp2
        go_ret
        refine ⟨ret_int ?_, rfl⟩
        rw [HC.out, if_pos (HA.out (by simp [HX0.out]))]
      · have hb0 : (x == 0) = false := by simp [hx0]
        have hav := hx64.av
        by_cases hx2 : n < av x
        · go_wp2_with (go_at_call 43; refine (variable_any _ (by assumption) _).mono ?_; rintro e w' ⟨rfl, rfl⟩)
          go_ret
          refine ⟨ret_int ?_, rfl⟩
          rw [HC.out, if_pos (HA.out (by simp [hx2]))]
        · go_wp2_with (go_at_call 43; refine (variable_any _ (by assumption) _).mono ?_; rintro e w' ⟨rfl, rfl⟩)
          go_round
          case rel =>
            refine ⟨k + 1, by omega, by go_num, fun j hj => ?_⟩
            by_cases hjk : j = k
            · subst hjk; rw [HX1.out]; simp [hx0, hx2]
            · exact HE.out j (by omega)
          case measure => simp [intOf]; omega
    · go_wp2
      go_ret
      refine ⟨ret_int ?_, rfl⟩
      rw [HC.out, any_upto (p := fun x => decide (x = 0) || decide (n < av x)) HE.out (by omega)]
      rfl
end L
end Go.Proofs.YtfhodbnhaaiceaaDoor
end
