/- Several texts, joined. -/
import Derived.Test.YtlkhabdpancjjaaDoorQ05
import Derived.Test.YtlkhabdpancjjaaDoorQ12

/- Contract of Fit: a formula of lists of small numbers. -/
section
namespace Go.Proofs.YtlkhabdpancjjaaDoor
open Go.RowKit
namespace L
open K

def fitC (V : Int) (l : List Int) : List Int := (l.map fun x => x.tmod (V + 1)).filter fun x => x != 0
def fitL (V : Int) (L : List (List Int)) : List (List Int) := L.map (fitC V)
def fitOk (L : List (List Int)) : Bool := decide (L.length ≤ 30) && L.all fun l => decide (l.length ≤ 20)

theorem fitC_skip {V : Int} {l : List Int} {k : Nat} (hk : k < l.length) (h : (l.getD k 0).tmod (V + 1) = 0) : fitC V (l.take (k + 1)) = fitC V (l.take k) := by
  rw [take_succ' l k hk]; simp only [List.getD_eq_getElem?_getD] at h ⊢; simp [fitC, h]
theorem fitC_push {V : Int} {l : List Int} {k : Nat} (hk : k < l.length) (h : (l.getD k 0).tmod (V + 1) ≠ 0) : fitC V (l.take (k + 1)) = fitC V (l.take k) ++ [(l.getD k 0).tmod (V + 1)] := by
  rw [take_succ' l k hk]; simp only [List.getD_eq_getElem?_getD] at h ⊢; simp [fitC, h]
theorem fitC_len {V : Int} {l : List Int} : (fitC V l).length ≤ l.length := by
  unfold fitC; exact Nat.le_trans (List.length_filter_le _ _) (by simp)
theorem take_succL (L : List (List Int)) (k : Nat) (hk : k < L.length) : L.take (k + 1) = L.take k ++ [L.getD k []] := by
  rw [List.take_add_one, List.getElem?_eq_getElem hk]; simp [List.getD, hk]
theorem fitL_push {V : Int} {L : List (List Int)} {k : Nat} (hk : k < L.length) : fitL V (L.take (k + 1)) = fitL V (L.take k) ++ [fitC V (L.getD k [])] := by
  rw [take_succL L k hk]; simp [fitL]
theorem fitOk_len {L : List (List Int)} (h : 30 < L.length) : fitOk L = false := by simp [fitOk]; omega
theorem fitOk_at {L : List (List Int)} {k : Nat} (hk : k < L.length) (h : 20 < (L.getD k []).length) : fitOk L = false := by
  unfold fitOk
  rw [Bool.and_eq_false_iff]; right
  rw [List.all_eq_false]
  exact ⟨_, mem_getDL hk, by rw [decide_eq_true_eq]; omega⟩
theorem fitOk_all {L : List (List Int)} {k : Nat} (h30 : L.length ≤ 30) (h : ∀ j, j < k → (L.getD j []).length ≤ 20) (hk : L.length ≤ k) : fitOk L = true := by
  simp only [fitOk, Bool.and_eq_true, decide_eq_true_eq, List.all_eq_true]
  refine ⟨h30, fun l hl => ?_⟩
  obtain ⟨j, hj, rfl⟩ := List.getElem_of_mem hl
  have := h j (by omega)
  simpa [List.getD, hj] using this
theorem fitOk_bound {L : List (List Int)} (h : fitOk L = true) : L.length ≤ 30 ∧ ∀ l ∈ L, l.length ≤ 20 := by
  simpa [fitOk] using h

/-- What Fit leaves. -/
def FitPost (V : Int) (L : List (List Int)) (w w' : World) (r : Value) : Prop :=
  (fitOk L = true ∧ ∃ v', r = .tuple #[.agg #[.int .i64 V, v'], .bool true] ∧ OwnL w' w.heap.size v' (fitL V L)) ∨ (fitOk L = false ∧ r = .tuple #[.agg #[.int .i64 0, .slice none 0 0], .bool false])

theorem info36 : (Tryd.prog.info? 34).map (fun i => (i.zero, i.size, i.bytes)) = some (some (.slice none 0 0), 1, 24) := by kernel_rfl

set_option maxRecDepth 100000 in
set_option maxHeartbeats 4000000 in
theorem fit_any (n : Int) (v : Value) (L8 : List (List Int)) (w : World) (hn0 : (Lit.int .u8 n).wf = true) (hW : ListsW .i8 w v L8) :
    Calls Tryd.prog 18 #[.int .u8 n, v] w fun e w' => ∃ r, e = .returned r ∧ FitPost (1 + n % 12) L8 w w' r ∧ Below w.heap.size w w' := by
  have hnb : 0 ≤ n ∧ n ≤ 255 := by simpa [Lit.wf, IntKind.min, IntKind.max, IntKind.signed, IntKind.bits] using hn0
  obtain ⟨hn1, hn2⟩ := hnb
  clear hn0
  obtain ⟨p, c, rfl, hg, hmax, hc⟩ := hW
  have hmax' : c ≤ 9223372036854775807 := hmax
  clear hmax
  by_cases h30 : (30 : Int) < L8.length
  · clear hc
    go_enter Tryd.func18, Tryd.ntmps18
    go_wp2
    (try simp only [Exit.inBlock, Exit.then])
    refine bodyPost_ret (res_cell_tmp rfl rfl (by simp [go_sem]; rfl)) rfl ?_
    refine ⟨_, rfl, .inr ⟨fitOk_len (by omega), rfl⟩, ?_⟩
    exact ((Below.refl _ _).alloc (Nat.le_refl _) _).alloc (by simp) _
  have HC := Lib.hid hc
  clear hc
  obtain ⟨i0, hi, hz0, hz1, hz2⟩ := info_parts info36
  obtain ⟨i3, hi3, hz30, hz31, hz32⟩ := info_parts info3
  have hV : 1 ≤ 1 + n % 12 ∧ 1 + n % 12 ≤ 12 := by omega
  generalize hVd : 1 + n % 12 = V at *
  have HV := Lib.hid hVd
  clear hVd
  go_enter Tryd.func18, Tryd.ntmps18
  go_wp2
  go_loopw [7] (fun i wr => ∃ (k : Nat) (vc : Value), k ≤ L8.length ∧ i = .int .i64 k ∧ (∀ j, j < k → (L8.getD j []).length ≤ 20) ∧ Below w.heap.size w wr ∧ Box wr w.heap.size 24 #[.int .i64 0, .slice none 0 0] ∧ Box wr (w.heap.size + 1) 24 #[.int .i64 V, vc] ∧ OwnL wr (w.heap.size + 2) vc (fitL V (L8.take k))) (fun i _ => L8.length - (intOf i).toNat)
  case atStart =>
    refine ⟨0, _, Nat.zero_le _, rfl, fun j hj => absurd hj (Nat.not_lt_zero _), ((Below.refl _ _).alloc (Nat.le_refl _) _).alloc (by simp) _, (Box.new w _ _).alloc _, ?_, OwnL.nil _ _⟩
    rw [← HV.out]
    exact Box.at _ _ _ (by simp)
  case round =>
    obtain ⟨k, vc, hk, rfl, heq, hb, hx0, hx1, hown⟩ := hrel
    obtain ⟨w1, hw1⟩ : ∃ W, W = wr := ⟨_, rfl⟩
    subst hw1
    have HE := Lib.hid heq
    clear heq
    have f00 := hx0.frozen 0
    have f01 := hx0.frozen 1
    have c00 : w1.cell? ⟨w.heap.size, 0, none⟩ = some (.int .i64 0) := hx0.cell 0
    have c01 : w1.cell? ⟨w.heap.size, 1, none⟩ = some (.slice none 0 0) := hx0.cell 1
    have c10 : w1.cell? ⟨w.heap.size + 1, 0, none⟩ = some (.int .i64 V) := hx1.cell 0
    have c11 : w1.cell? ⟨w.heap.size + 1, 1, none⟩ = some vc := hx1.cell 1
    have hs1 := hx1.lt
    obtain ⟨us, hus, howns, hin⟩ := hown
    have HIN := Lib.hid hin
    clear hin
    obtain ⟨pv, cv, rfl⟩ := owns_shape howns
    by_cases hlt : k < L8.length
    · obtain ⟨b, o, rfl, e1⟩ := HC.out (by omega)
      obtain ⟨u, hu, hiu⟩ := e1 k hlt
      have d1 := (hb.cell (p := ⟨b, o + k, none⟩) (World.block_lt_of_cell? _ _ hu)).trans hu
      clear e1
      obtain ⟨q, cu, rfl, hcu, hmu, hwf, hcell⟩ := hiu
      have hlk : ((L8.getD k []).length : Int) ≤ 9223372036854775807 := by have : cu ≤ 9223372036854775807 := hmu; omega
      have HFL := Lib.hid (fitL_push (V := V) hlt)
      have HAT := Lib.hid (fun h => fitOk_at (L := L8) hlt h)
      generalize hlkd : L8.getD k [] = lk at *
      have HLK := Lib.hid hlkd
      have HWF := Lib.hid hwf
      have HCELL := Lib.hid hcell
      clear hlkd hwf hcell hmu hu
      by_cases h20 : (lk.length : Int) ≤ 20
      · go_wp2
        clear f00 f01 c00 c01
        go_loopw [8, 9] (fun cc jj w2 => ∃ j : Nat, j ≤ lk.length ∧ jj = .int .i64 j ∧ OwnI w2 w1.heap.size cc (fitC V (lk.take j)) ∧ Below w1.heap.size w1 w2) (fun _ jj _ => lk.length - (intOf jj).toNat)
        case atStart => exact ⟨0, Nat.zero_le _, rfl, by simpa [fitC] using OwnI.nil _ _, Below.refl _ _⟩
        case round =>
          obtain ⟨j, hj, rfl, hci, hb2⟩ := hrel
          obtain ⟨w2, hw2⟩ : ∃ W, W = wr := ⟨_, rfl⟩
          subst hw2
          obtain ⟨pc, nc, hcs⟩ := owns_shape hci
          subst hcs
          have g1 := (hb2.cell (p := ⟨b, o + k, none⟩) (World.block_lt_of_cell? _ _ d1)).trans d1
          have g10 := (hb2.cell (p := ⟨w.heap.size + 1, 0, none⟩) hs1).trans c10
          by_cases hjl : j < lk.length
          · obtain ⟨bq, oq, rfl, e2⟩ := HCELL.out (by omega)
            have e3 := hb.cell (p := ⟨bq, oq + j, none⟩) (World.block_lt_of_cell? _ _ (e2 j hjl))
            have g2 := (hb2.cell (p := ⟨bq, oq + j, none⟩) (World.block_lt_of_cell? _ _ (e3.trans (e2 j hjl)))).trans (e3.trans (e2 j hjl))
            have hzwf := HWF.out _ (mem_getD hjl)
            have HSK := Lib.hid (fun h => fitC_skip (V := V) hjl h)
            have HPU := Lib.hid (fun h => fitC_push (V := V) hjl h)
            have HCI : Hid (∀ W : World, W.heap = w2.heap → OwnI W w1.heap.size (.slice pc (fitC V (lk.take j)).length nc) (fitC V (lk.take j))) := Lib.hid (fun W hW => owns_heap hci hW)
            have hcl : (fitC V (lk.take j)).length ≤ 20 := Nat.le_trans fitC_len (by simp; omega)
            clear e2 e3 hci
            generalize lk.getD j 0 = z at *
            have hzb : -128 ≤ z ∧ z ≤ 127 := by simpa [Lit.wf, IntKind.min, IntKind.max, IntKind.signed, IntKind.bits] using hzwf
            obtain ⟨hzb1, hzb2⟩ := hzb
            have hdv : (V + 1 == 0) = false := by simp; omega
            clear hzwf
            by_cases hz0 : z.tmod (V + 1) = 0
            · have hz1 : (z.tmod (V + 1) != 0) = false := by simp [hz0]
              have HZ := Lib.hid hz0
              clear hz0
              go_wp2
              go_quiet (fail)
              go_wp2
              go_roundw
              case rel => exact ⟨j + 1, by omega, by go_num, by rw [HSK.out HZ.out]; exact HCI.out _ rfl, below_drewN hb2 _⟩
              case measure => simp [intOf]; omega
            · have hz1 : (z.tmod (V + 1) != 0) = true := by simp [hz0]
              have HZ := Lib.hid hz0
              clear hz0
              go_wp2
              go_quiet (fail)
              have hb3 : Below w1.heap.size w1 (w2.drewN nq) := below_drewN hb2 _
              have hci3 := HCI.out (w2.drewN nq) rfl
              have HB3 := Lib.hid hb3
              have HC3 := Lib.hid hci3
              clear hb3 hci3
              go_wp2_with (at_builtin; refine wpList_append_own _ rfl _ _ 34 rfl w1.heap.size 3 i3 (.int .i64 0) 1 8 Tryd.underlying34 hi3 hz30 hz31 hz32 rfl (by decide) _ _ _ rfl (HC3.out.alloc _) ⟨(w2.drewN nq).heap.size, 0, none⟩ 1 1 [.int .i64 (z.tmod (V + 1))] rfl rfl ?c1 ?c2 ?c3 ?c4 ?c5 ?_)
              case c1 =>
                intro j u hj
                match j, hj with
                | 0, hj => simp at hj; subst hj; exact cell_new (by simp) rfl
              case c2 => intro u hu; simp at hu; subst hu; rfl
              case c3 => unfold maxLen; omega
              case c4 => omega
              case c5 => have := HB3.out.size; simp at this ⊢; omega
              intro v' w3 hown' hgrow _
              have hlt2 := fun k hk => (HC3.out.lt k hk).1
              have hb' := (HB3.out.alloc HB3.out.size (.cells #[.int .i64 (z.tmod (V + 1))] 3)).grown hgrow (by have := HB3.out.size; simp at this ⊢; omega) hlt2
              clear hgrow
              go_wp2
              go_roundw
              case rel => exact ⟨j + 1, by omega, by go_num, by rw [HPU.out HZ.out]; unfold OwnI; simpa using hown', hb'⟩
              case measure => simp [intOf]; omega
          · have htk : lk.take j = lk := List.take_of_length_le (by omega)
            rw [htk] at hci ⊢
            clear htk
            have hx1' := hx1.below hb2 hs1
            have howns' := owns_below howns hb2 (Nat.le_refl _)
            have hcb : OwnI w2 (w.heap.size + 2) (.slice pc (fitC V lk).length nc) (fitC V lk) := owns_base hci (by omega)
            have hs2 := hx1'.lt
            have g11 : w2.cell? ⟨w.heap.size + 1, 1, none⟩ = some (.slice pv (fitL V (L8.take k)).length cv) := hx1'.cell 1
            go_wp2_with (at_builtin; refine wpList_append_own _ rfl _ _ 22 rfl (w.heap.size + 2) 34 i0 (.slice none 0 0) 1 24 Tryd.underlying22 hi hz0 hz1 hz2 rfl (by decide) _ _ _ rfl (howns'.alloc _) ⟨w2.heap.size, 0, none⟩ 1 1 [.slice pc (fitC V lk).length nc] rfl rfl ?d1 ?d2 ?d3 ?d4 ?d5 ?_)
            case d1 =>
              intro j u hj
              match j, hj with
              | 0, hj => simp at hj; subst hj; exact cell_new (by simp) rfl
            case d2 => intro u hu; simp at hu; subst hu; rfl
            case d3 => have : (fitL V (L8.take k)).length ≤ L8.length := by simp [fitL]; omega
                       unfold maxLen; omega
            case d4 => have : (fitL V (L8.take k)).length ≤ L8.length := by simp [fitL]; omega
                       omega
            case d5 => simp; omega
            intro v' w3 hown' hgrow _
            have hne : ∀ i, i < w.heap.size + 2 → some i ≠ (Value.slice pv (fitL V (L8.take k)).length cv).ownBlock := fun i hi he => by have := (howns'.lt i he.symm).1; omega
            have hbA : Below w.heap.size w (w2.alloc (.cells #[.slice pc (fitC V lk).length nc] 34)) := (hb.trans (hb2.mono hb.size)).alloc (by omega) _
            have hbB := hbA.grown hgrow (by simp; omega) (fun i hi => by have := (howns'.lt i hi).1; omega)
            have hx0B := ((hx0.below hb2 (by omega)).alloc (.cells #[.slice pc (fitC V lk).length nc] 34)).grown hgrow (hne _ (by omega))
            have hx1B := (hx1'.alloc (.cells #[.slice pc (fitC V lk).length nc] 34)).grown hgrow (hne _ (by omega))
            have hOL := OwnL.push hus (howns'.alloc (.cells #[.slice pc (fitC V lk).length nc] 34)) (fun j hj => (owns_below (HIN.out j hj) hb2 (Nat.le_refl _)).alloc (.cells #[.slice pc (fitC V lk).length nc] 34)) (hcb.alloc (.cells #[.slice pc (fitC V lk).length nc] 34)) hown' hgrow
            obtain ⟨g, cap, rfl, hg1, hg2⟩ := owns_form hown' (by omega)
            have k11 : w3.cell? ⟨w.heap.size + 1, 1, none⟩ = some (.slice pv (fitL V (L8.take k)).length cv) := hx1B.cell 1
            have k11f := hx1B.frozen 1
            clear hgrow hx1 hx0 hx1' howns' hcb hci howns hown' hb2 hb hbA
            go_wp2
            go_roundw
            case rel =>
              refine ⟨k + 1, _, by omega, by go_num, fun j hj => ?_, hbB.setCell (by simp) _, hx0B.setOther _ (by simp) _, hx1B.set 1 _, ?_⟩
              · by_cases hjk : j = k
                · subst hjk; rw [HLK.out]; omega
                · exact HE.out j (by omega)
              · rw [HFL.out]
                exact hOL.setCell (by simp) _
            case measure => simp [intOf]; omega
      · go_wp2
        (try simp only [Exit.inBlock, Exit.then])
        refine bodyPost_ret (res_cell_tmp rfl rfl (by simp [go_sem, *]; rfl)) rfl ?_
        exact ⟨_, rfl, .inr ⟨HAT.out (by omega), rfl⟩, (hb.setCell (Nat.le_refl _) _).setCell (Nat.le_refl _) _⟩
    · go_wp2
      (try simp only [Exit.inBlock, Exit.then])
      refine bodyPost_ret (res_cell_tmp rfl rfl (by simp [go_sem, *]; rfl)) rfl ?_
      have hkl : k = L8.length := by omega
      subst hkl
      refine ⟨_, rfl, .inl ⟨fitOk_all (by omega) HE.out (Nat.le_refl _), _, rfl, ?_⟩, (hb.setCell (Nat.le_refl _) _).setCell (Nat.le_refl _) _⟩
      have hO : OwnL w1 (w.heap.size + 2) (.slice pv (fitL V (L8.take L8.length)).length cv) (fitL V (L8.take L8.length)) := ⟨us, hus, howns, HIN.out⟩
      rw [List.take_length] at hO ⊢
      exact ((hO.setCell (a := ⟨w.heap.size, 0, none⟩) (by simp) _).setCell (a := ⟨w.heap.size, 1, none⟩) (by simp) _).down (by omega)
end L
end Go.Proofs.YtlkhabdpancjjaaDoor
end

/- Contract of Model. -/
section
namespace Go.Proofs.YtlkhabdpancjjaaDoor
open Go.RowKit
namespace L
open K

theorem info4 : (Tryd.prog.info? 4).map (fun i => (i.zero, i.size, i.bytes)) = some (some (.bool false), 1, 1) := by kernel_rfl

theorem owns_bools {w : World} {base : Nat} {v : Value} {l : List Bool} (h : w.ownsRow base 4 1 v l.length (l.map Value.bool)) (hm : l.length ≤ 140737488351232) : Bools w v l := by
  rcases h.2 with ⟨rfl, h0⟩ | ⟨g, cap, cur, rfl, hb, hg, hn, hcap, hsz, htake⟩
  · exact ⟨none, 0, by rw [h0], by omega, hm, fun h => by omega⟩
  · refine ⟨some ⟨g, 0, none⟩, cap, rfl, hn, hm, fun _ => ⟨g, 0, rfl, fun j hj => ?_⟩⟩
    have := h.cellAt j (by omega)
    rw [Nat.zero_add, this]
    simp [List.getD, hj]

/-- The value of a variable. -/
def modelB (b : Int) (i : Nat) : Bool := bits BinOp.and IntKind.u16 (b / 2 ^ min i 16) 1 == 1
def modelR (n : Nat) (b : Int) : List Bool := (List.range n).map (modelB b)
theorem modelR_len (n : Nat) (b : Int) : (modelR n b).length = n := by simp [modelR]
theorem modelR_of {n : Nat} {b : Int} {bs : List Bool} (hl : bs.length = n) (h : ∀ j, j < n → bs.getD j false = modelB b j) : bs = modelR n b := by
  refine List.ext_getElem (by simp [modelR, hl]) fun i h1 h2 => ?_
  have := h i (by omega)
  simp only [List.getD_eq_getElem?_getD, List.getElem?_eq_getElem h1, Option.getD_some] at this
  simpa [modelR] using this

end L
end Go.Proofs.YtlkhabdpancjjaaDoor
end

/- What Fit makes is valid; what First's index says. CnfAll: the walk. -/
section
namespace Go.Proofs.YtlkhabdpancjjaaDoor
open Go.RowKit
namespace L
open K

theorem tmod_av (x V : Int) (h1 : 1 ≤ V) (h2 : V ≤ 1000) : av (x.tmod (V + 1)) ≤ V ∧ I64 (x.tmod (V + 1)) := by
  have h3 : x.tmod (V + 1) < V + 1 := Int.tmod_lt_of_pos x (by omega)
  have h4 : -(V + 1) < x.tmod (V + 1) := by
    have h := Int.tmod_lt_of_pos (-x) (show 0 < V + 1 by omega)
    rw [Int.neg_tmod] at h
    omega
  refine ⟨by unfold av; split <;> omega, by unfold I64; omega⟩
theorem fitC_mem {V : Int} {l : List Int} (h1 : 1 ≤ V) (h2 : V ≤ 1000) : ∀ x ∈ fitC V l, x ≠ 0 ∧ av x ≤ V ∧ I64 x := by
  intro x hx
  simp only [fitC, List.mem_filter, List.mem_map, bne_iff_ne, ne_eq] at hx
  obtain ⟨⟨y, _, rfl⟩, hy⟩ := hx
  exact ⟨hy, tmod_av y V h1 h2⟩
theorem fitC_check {V : Int} {l : List Int} (h1 : 1 ≤ V) (h2 : V ≤ 1000) (hl : l.length ≤ 4096) : checkE V (fitC V l) = 0 := by
  have hlen := fitC_len (V := V) (l := l)
  have hany : (fitC V l).any (fun x => decide (x = 0) || decide (V < av x)) = false := by
    rw [List.any_eq_false]
    intro x hx
    have := fitC_mem h1 h2 x hx
    simp [this.1]; omega
  simp only [checkE, hany]
  rw [if_neg (by omega), if_neg (by omega)]
  rfl
theorem firstE_zero {V : Int} {L : List (List Int)} (h : ∀ l ∈ L, checkE V l = 0) : firstE V L = 0 := by
  induction L with
  | nil => rfl
  | cons l r ih => simp only [firstE, h l (by simp), if_true]; exact ih fun x hx => h x (by simp [hx])
theorem fitL_mem {V : Int} {L : List (List Int)} {l : List Int} (h : l ∈ fitL V L) : ∃ l' ∈ L, l = fitC V l' := by
  simp only [fitL, List.mem_map] at h
  obtain ⟨l', h1, h2⟩ := h
  exact ⟨l', h1, h2.symm⟩
theorem fit_i64 {V : Int} {L : List (List Int)} (h1 : 1 ≤ V) (h2 : V ≤ 1000) : ∀ l ∈ fitL V L, ∀ x ∈ l, I64 x := by
  intro l hl x hx
  obtain ⟨l', _, rfl⟩ := fitL_mem hl
  exact (fitC_mem h1 h2 x hx).2.2
theorem fit_len {V : Int} {L : List (List Int)} (h : fitOk L = true) : (fitL V L).length ≤ 30 ∧ ∀ l ∈ fitL V L, l.length ≤ 20 := by
  obtain ⟨h1, h2⟩ := fitOk_bound h
  refine ⟨by simpa [fitL] using h1, fun l hl => ?_⟩
  obtain ⟨l', h3, rfl⟩ := fitL_mem hl
  exact Nat.le_trans fitC_len (h2 l' h3)
theorem fit_check {V : Int} {L : List (List Int)} (h1 : 1 ≤ V) (h2 : V ≤ 1000) (h : fitOk L = true) : checkF V (fitL V L) = 0 := by
  obtain ⟨h3, h4⟩ := fitOk_bound h
  have h5 : firstE V (fitL V L) = 0 := firstE_zero fun l hl => by
    obtain ⟨l', h6, rfl⟩ := fitL_mem hl
    exact fitC_check h1 h2 (by have := h4 l' h6; omega)
  have h6 := (fit_len (V := V) h).1
  simp only [checkF, h5]
  rw [if_neg (by omega), if_neg (by omega)]
theorem fit_own {V : Int} {L : List (List Int)} {w : World} {base : Nat} {v : Value} (h : fitOk L = true) (hO : OwnL w base v (fitL V L)) : Lists w v (fitL V L) :=
  hO.lists (by have := (fit_len (V := V) h).1; omega) fun j hj => by have := (fit_len (V := V) h).2 _ (mem_getDL hj); omega
theorem firstF_ok {V : Int} {L : List (List Int)} {m : List Bool} (h : checkF V L = 0) (hm : (m.length : Int) = V) : firstF V L m = (firstI m L, 0) := by
  simp [firstF, h, hm]
theorem least (p : Nat → Bool) (n : Nat) : (∀ j, j < n → p j = true) ∨ ∃ a, a < n ∧ p a = false ∧ ∀ j, j < a → p j = true := by
  induction n with
  | zero => exact .inl fun j hj => absurd hj (Nat.not_lt_zero _)
  | succ n ih =>
    rcases ih with h | ⟨a, ha, h1, h2⟩
    · cases hq : p n with
      | true =>
        left
        intro j hj
        by_cases hjn : j = n
        · rw [hjn]; exact hq
        · exact h j (by omega)
      | false => exact .inr ⟨n, by omega, hq, h⟩
    · exact .inr ⟨a, by omega, h1, h2⟩
theorem first_facts (m : List Bool) (L : List (List Int)) : (firstI m L = -1 ∧ ∀ j, j < L.length → holdsB m (L.getD j []) = true) ∨ ∃ a : Nat, firstI m L = a ∧ a < L.length ∧ (∀ j, j < a → holdsB m (L.getD j []) = true) ∧ holdsB m (L.getD a []) = false := by
  rcases least (fun j => holdsB m (L.getD j [])) L.length with h | ⟨a, ha, hf, hm⟩
  · exact .inl ⟨firstI_upto h (Nat.le_refl _), h⟩
  · exact .inr ⟨a, firstI_at hm ha hf, ha, hm, hf⟩
theorem holds_nil (m : List Bool) : holdsB m [] = false := rfl
end L
end Go.Proofs.YtlkhabdpancjjaaDoor
end
