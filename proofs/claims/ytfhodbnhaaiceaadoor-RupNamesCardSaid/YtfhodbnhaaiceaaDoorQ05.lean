/- Several texts, joined. -/
import Derived.Test.YtfhodbnhaaiceaaDoorQ03
import Derived.Test.YtfhodbnhaaiceaaDoorQ04
import Derived.Lib.RowBridge
import Derived.Lib.SortBridge
import Derived.Laws.BytesArg
import Derived.Laws.IdiomStrings
import Derived.Lib.SmallJoins
import Derived.Test.YtfhodbnhaaiceaaDoorQ01

/- Sorted and Compact at []int, on rows of the call's own. -/
section
namespace Go.Proofs.YtfhodbnhaaiceaaDoor
open Go.RowKit RA Go.Sort
namespace L
open K
set_option maxRecDepth 100000

/-- Behind a rewriting of its row the slice owns the new cells; below its block nothing has turned. -/
theorem owns_put {α : Type} [Inhabited α] (enc : α → Value) {w : World} {B n m : Nat} {g cap : Nat} {xs : List Value} (h : w.ownsRow B 3 1 (.slice (some ⟨g, 0, none⟩) n cap) n xs) (d : Array α) (hd : d.size = n) (os : Array Obj) :
    (grow (putRow enc (Sort.ahead w m) g 0 d) os).ownsRow B 3 1 (.slice (some ⟨g, 0, none⟩) n cap) n (d.toList.map enc) ∧ Below B w (grow (putRow enc (Sort.ahead w m) g 0 d) os) := by
  rcases h.2 with ⟨h', _⟩ | ⟨g', cap', cur, h', hb, hg, hnc, hcm, hcs, htake⟩
  · simp at h'
  simp only [Value.slice.injEq, Option.some.injEq, Addr.mk.injEq, and_true, true_and] at h'
  obtain ⟨rfl, rfl⟩ := h'
  have hlt : g < w.heap.size := (Array.getElem?_eq_some_iff.1 hg).1
  have hblk : (grow (putRow enc (Sort.ahead w m) g 0 d) os).heap[g]? = some (.cells (putCells enc 0 d cur) 3 (0, 0)) := by
    rw [heap_grow_old _ _ (by simpa using hlt)]
    simp only [putRow, mapBlock, Sort.heap_ahead, Array.getElem?_modify, if_true, hg, Option.map_some, onCells]
  refine ⟨⟨by simp [hd], .inr ⟨g, cap, putCells enc 0 d cur, rfl, hb, hblk, hnc, hcm, by simpa [putCells] using hcs, ?_⟩⟩, ?_⟩
  · apply List.ext_getElem?
    intro j
    simp only [putCells, List.getElem?_take, List.getElem?_map, Array.getElem?_toList, Array.getElem?_mapIdx]
    by_cases hj : j < n
    · have hjc : j < cur.size := by omega
      have hjd : j < d.size := by omega
      rw [if_pos (by omega), Array.getElem?_eq_getElem hjc, Array.getElem?_eq_getElem hjd]
      simp [hjd]
    · rw [if_neg (by omega), Array.getElem?_eq_none (by omega)]; rfl
  · refine ⟨rfl, rfl, rfl, by simp, fun k hk => ?_⟩
    have hkw : k < w.heap.size := by omega
    rw [heap_grow_old _ _ (by simpa using hkw)]
    simp only [putRow, mapBlock, Sort.heap_ahead, Array.getElem?_modify]
    rw [if_neg (by omega)]
/-- A shorter slice of the same row. -/
theorem owns_take {w : World} {B n m g cap : Nat} {xs : List Value} (h : w.ownsRow B 3 1 (.slice (some ⟨g, 0, none⟩) n cap) n xs) (hm : m ≤ n) : w.ownsRow B 3 1 (.slice (some ⟨g, 0, none⟩) m cap) m (xs.take m) := by
  rcases h with ⟨h0, ⟨h', _⟩ | ⟨g', cap', cur, h', hb, hg, hnc, hcm, hcs, htake⟩⟩
  · simp at h'
  simp only [Value.slice.injEq, Option.some.injEq, Addr.mk.injEq, and_true, true_and] at h'
  obtain ⟨rfl, rfl⟩ := h'
  refine ⟨by rw [List.length_take]; omega, .inr ⟨g, cap, cur, rfl, hb, hg, by omega, hcm, hcs, ?_⟩⟩
  rw [← htake, List.take_take]
  congr 1
  omega
theorem owns_holds {w : World} {B g cap : Nat} {l : List Int} (h : OwnI w B (.slice (some ⟨g, 0, none⟩) l.length cap) l) : Holds (Value.int .i64) w g 0 l.toArray := by
  intro j hj
  have hj' : j < l.length := by simpa using hj
  have hfr := World.ownsRow.frozenAt h j
  have hce := World.ownsRow.cellAt h j (by omega)
  refine ⟨?_, by rw [Nat.zero_add]; exact hfr⟩
  rw [Nat.zero_add, hce, getElem!_pos l.toArray j hj]
  simp [hj']

abbrev sortL (l : List Int) : List Int := l.mergeSort fun x y => decide (x ≤ y)

theorem collect_any (p : Option Addr) (cap b off : Nat) (l : List Int) (B : Nat) (w : World) (hl : l.length ≤ cap) (hm : l.length * 8 ≤ 140737488351232) (hp : 0 < l.length → p = some ⟨b, off, none⟩)
    (hc : ∀ j, j < l.length → w.cell? ⟨b, off + j, none⟩ = some (.int .i64 (l.getD j 0))) (hbw : b < w.heap.size) (hbox : Box w B 23 #[.slice p l.length cap]) :
    Calls Tryd.prog 72 #[.func (.func 74) #[] #[.pointer (some ⟨B, 0, none⟩)]] w fun e w' => ∃ u, e = .returned u ∧ OwnI w' w.heap.size u l ∧ Below w.heap.size w w' := by
  have hA := appendseq_any p cap b off l B w hl hm hp hc hbw hbox
  clear hl hm hp hc hbw hbox
  go_enter Tryd.func72, Tryd.ntmps72
  go_wp2_with fail
  refine hA.mono ?_
  rintro e w1 ⟨u, rfl, ho, hb⟩
  clear hA
  go_wp2
  go_ret
  exact ⟨u, rfl, ho, hb⟩

set_option maxHeartbeats 2000000 in
theorem sorted_any (p : Option Addr) (cap b off : Nat) (l : List Int) (B : Nat) (w : World) (hl : l.length ≤ cap) (hm : l.length * 8 ≤ 140737488351232) (hp : 0 < l.length → p = some ⟨b, off, none⟩)
    (hc : ∀ j, j < l.length → w.cell? ⟨b, off + j, none⟩ = some (.int .i64 (l.getD j 0))) (hbw : b < w.heap.size) (hbox : Box w B 23 #[.slice p l.length cap]) :
    Calls Tryd.prog 65 #[.func (.func 74) #[] #[.pointer (some ⟨B, 0, none⟩)]] w fun e w' => ∃ u, e = .returned u ∧ OwnI w' w.heap.size u (sortL l) ∧ Below w.heap.size w w' := by
  have hA := collect_any p cap b off l B w hl hm hp hc hbw hbox
  clear hl hp hc hbw hbox
  go_enter Tryd.func65, Tryd.ntmps65
  go_wp2_with fail
  refine hA.mono ?_
  rintro e w1 ⟨u, rfl, ho, hb⟩
  clear hA
  rcases ho.2 with ⟨rfl, h0⟩ | ⟨g, cap', cur, rfl, hgb, hg, hn, hcap, hszc, htake⟩
  · obtain rfl : l = [] := List.length_eq_zero_iff.1 h0
    have hS := Tryd.slices_Sort_int_none none 0 w1
    clear ho
    go_wp2_with fail
    refine hS.mono ?_
    rintro e w2 ⟨rfl, rfl⟩
    clear hS
    go_wp2
    go_ret
    exact ⟨_, rfl, by rw [show sortL [] = [] from by simp [sortL]]; exact OwnI.nil _ _, hb⟩
  · have hgw : g < w1.heap.size := (Array.getElem?_eq_some_iff.1 hg).1
    have hS := Tryd.slices_Sort_int g 0 cap' l w1 (owns_holds ho) hgw (by omega)
    have HO := Lib.hid ho
    have HB := Lib.hid hb
    clear ho hb hg htake hszc hn
    go_wp2_with fail
    refine hS.mono ?_
    rintro e w2 ⟨rfl, n, os, hw2⟩
    have hfin := owns_put (Value.int .i64) (m := n) HO.out (sortL l).toArray (by simp [sortL]) os
    have hlen : (sortL l).length = l.length := by simp [sortL]
    have hfin2 : OwnI w2 w.heap.size (.slice (some ⟨g, 0, none⟩) l.length cap') (sortL l) ∧ Below w.heap.size w w2 := by
      rw [hw2]
      refine ⟨?_, HB.out.trans hfin.2⟩
      unfold OwnI
      rw [hlen]
      exact hfin.1
    have HF := Lib.hid hfin2
    clear hS hfin hfin2 hw2 hlen
    go_wp2
    go_ret
    exact ⟨_, rfl, HF.out⟩

theorem compact_own (u : Value) (l : List Int) (B : Nat) (w : World) (h : OwnI w B u l) (hm : l.length ≤ 9223372036854775807) :
    Calls Tryd.prog 64 #[u] w fun e w' => ∃ u', e = .returned u' ∧ OwnI w' B u' (Lib.compact l) ∧ Below B w w' := by
  rcases h.2 with ⟨rfl, h0⟩ | ⟨g, cap', cur, rfl, hgb, hg, hn, hcap, hszc, htake⟩
  · obtain rfl : l = [] := List.length_eq_zero_iff.1 h0
    refine (Tryd.slices_Compact_int_empty none 0 w).mono ?_
    rintro e w' ⟨rfl, rfl⟩
    have h1 : Lib.compact ([] : List Int) = [] := List.eq_nil_of_length_eq_zero (Nat.le_zero.1 (KP.compact_len []))
    exact ⟨_, rfl, by rw [h1]; exact OwnI.nil _ _, Below.refl _ _⟩
  · refine (Tryd.slices_Compact_int g 0 cap' l w (owns_holds h) hm hn).mono ?_
    rintro e w' ⟨rfl, q, rfl⟩
    have hcl := KP.compact_len l
    have hfin := owns_put (Value.int .i64) (m := q) h (Lib.compact l ++ List.replicate (l.length - (Lib.compact l).length) 0).toArray (by simp; omega) #[]
    have hg0 : ∀ W : World, grow W #[] = W := fun W => by simp [grow]
    rw [hg0] at hfin
    refine ⟨_, rfl, ?_, hfin.2⟩
    have h2 := owns_take hfin.1 hcl
    unfold OwnI
    rw [List.map_append, List.take_left' (by simp)] at h2
    exact h2
end L
end Go.Proofs.YtfhodbnhaaiceaaDoor
end

/- Contract of rup.key. -/
section
namespace Go.Proofs.YtfhodbnhaaiceaaDoor
open Go.RowKit RA
namespace L
open K
set_option maxRecDepth 100000

theorem gpow : Tryd.prog.globalNamed "internal/strconv.uint64pow10" = some 0 := by kernel_rfl
/-- The table of powers of ten lies where the program reads it. -/
abbrev Tab (w : World) : Prop := Lib.TabIs Tryd.prog w "internal/strconv.uint64pow10" .u64 Lib.pow10Tab
theorem Tab.below {w w' : World} (h : Tab w) (hb : Below w.heap.size w w') : Tab w' := Go.Joins.tab_stays gpow h hb (Nat.le_refl _)

/-- A row of bytes of the call's own. -/
def OwnB (w : World) (base : Nat) (v : Value) (l : List UInt8) : Prop := w.ownsRow base 5 1 v l.length (Lib.byteCells l)
theorem OwnB.nil (w : World) (base : Nat) : OwnB w base (.slice none 0 0) [] := World.ownsRow_nil _ _ _ _

theorem dec_len (u : Nat) (h : u < 18446744073709551616) : (Lib.decDigits u).length ≤ 20 := by
  rw [Lib.decDigits_length]
  by_cases h0 : u = 0
  · subst h0; rw [Lib.nDigits_small (by omega)]; omega
  · have := Lib.numDigits_eq u (by omega) h; split at this <;> omega
theorem itoa_len (x : Int) (h : I64 x) : (Lib.itoa x).length ≤ 21 := by
  unfold I64 at h
  unfold Lib.itoa
  split
  · have := dec_len x.natAbs (by omega); simp; omega
  · have := dec_len x.toNat (by omega); omega
theorem key_step (l : List Int) (k : Nat) (hk : k < l.length) : ((l.take (k + 1)).flatMap fun x => Lib.itoa x ++ [32]) = ((l.take k).flatMap fun x => Lib.itoa x ++ [32]) ++ Lib.itoa (l.getD k 0) ++ [32] := by
  rw [take_succ' l k hk, List.flatMap_append]
  simp
theorem key_len (l : List Int) (h : ∀ x ∈ l, I64 x) : (l.flatMap fun x => Lib.itoa x ++ [32]).length ≤ 22 * l.length := by
  induction l with
  | nil => simp
  | cons x l ih =>
    have h1 := itoa_len x (h x (by simp))
    have h2 := ih fun y hy => h y (by simp [hy])
    simp only [List.flatMap_cons, List.length_append, List.length_cons, List.length_nil]
    omega
theorem info5 : (Tryd.prog.info? 5).map (fun i => (i.zero, i.size, i.bytes)) = some (some (.int .u8 0), 1, 1) := by kernel_rfl
theorem aint_own (i : Int) (hi : I64 i) (B : Nat) (v : Value) (l : List UInt8) (w : World) (h : OwnB w B v l) (hB : B ≤ w.heap.size) (hl : l.length ≤ 140737488000000) (ht : Lib.TabBelow Tryd.prog B w "internal/strconv.uint64pow10" .u64 Lib.pow10Tab) :
    Calls Tryd.prog 67 #[v, .int .i64 i, .int .i64 10] w fun e w' => ∃ v', e = .returned v' ∧ OwnB w' B v' (l ++ Lib.itoa i) ∧ Below B w w' := by
  refine (Tryd.strconv_AppendInt_10 B l.length i hi.1 hi.2 v _ w h hB (by omega) ht).mono ?_
  rintro e w' ⟨v', rfl, ho, hb, _⟩
  refine ⟨v', rfl, ?_, hb⟩
  unfold OwnB
  rw [List.length_append, Lib.byteCells_append]
  exact ho

set_option maxHeartbeats 4000000 in
theorem key_any (v : Value) (c : List Int) (w : World) (hc : ∀ x ∈ c, I64 x) (h : Ints w v c) (hm : c.length ≤ 1000000) (ht : Tab w) :
    Calls Tryd.prog 56 #[v] w fun e w' => e = .returned (.string ⟨(KP.keyB c).toArray⟩) ∧ Below w.heap.size w w' := by
  obtain ⟨i0, hi, hz0, hz1, hz2⟩ := info_parts info5
  have hmf : ∀ (fn : Fn) (first cap : Array Value) (w : World), (Instr.makeFunc fn first cap).run Tryd.prog w = .ok (.func fn first cap) w := fun _ _ _ _ => rfl
  have hsort : Hid (∀ W, W = w.alloc (.cells #[v] 23) → Calls Tryd.prog 65 #[.func (.func 74) #[] #[.pointer (some ⟨w.heap.size, 0, none⟩)]] W fun e w' => ∃ u, e = .returned u ∧ OwnI w' W.heap.size u (sortL c) ∧ Below W.heap.size W w') := by
    refine Lib.hid ?_
    rintro W rfl
    have hI := h.below ((Below.refl _ w).alloc (Nat.le_refl _) (.cells #[v] 23))
    obtain ⟨p, cap, rfl, hl, hm8, hcc⟩ := hI
    by_cases h0 : 0 < c.length
    · obtain ⟨b, off, hp, e1⟩ := hcc h0
      exact sorted_any p cap b off c w.heap.size _ hl hm8 (fun _ => hp) e1 (World.block_lt_of_cell? _ _ (e1 0 h0)) (Box.new _ _ _)
    · exact sorted_any p cap 0 0 c w.heap.size _ hl hm8 (fun h => absurd h h0) (fun j hj => absurd hj (by omega)) (by simp) (Box.new _ _ _)
  obtain ⟨pv, cv, rfl, _⟩ := id h
  have hsl : (sortL c).length = c.length := by simp [sortL]
  obtain ⟨S, hS⟩ : ∃ S, KP.keyB c = S := ⟨_, rfl⟩
  rw [hS]
  have HKS := Lib.hid hS
  clear hS
  have HTB := Lib.hid (Lib.tabBelow_of_tabIs ht)
  have HCI := Lib.hid hc
  have HSL := Lib.hid hsl
  clear ht h hsl hc
  go_enter Tryd.func56, Tryd.ntmps56
  go_wp2_with (go_at_call 66; go_in)
  refine (hsort.out _ rfl).mono ?_
  rintro e w1 ⟨u1, rfl, ho1, hb1⟩
  refine Hid.out ?_
  refine Lib.hid ?_
  have hB1 : Below w.heap.size w w1 := ((Below.refl _ w).alloc (Nat.le_refl _) _).trans (hb1.mono (by simp))
  have hcmp := compact_own u1 (sortL c) (w.heap.size + 1) w1 (by simpa using ho1) (by rw [HSL.out]; omega)
  have HB1 := Lib.hid hB1
  clear ho1 hb1 hB1 hsort
  go_wp2_with fail
  refine hcmp.mono ?_
  rintro e w2 ⟨u2, rfl, ho2, hb2⟩
  refine Hid.out ?_
  refine Lib.hid ?_
  have hB2 : Below w.heap.size w w2 := HB1.out.trans (hb2.mono (by omega))
  have HB2 := Lib.hid hB2
  have HU : Hid (∀ x ∈ Lib.compact (sortL c), I64 x) := Lib.hid fun x hx => HCI.out x (KP.mem_uniq.1 hx)
  have HK : Hid (KP.keyB c = (Lib.compact (sortL c)).flatMap fun x => Lib.itoa x ++ [32]) := Lib.hid rfl
  have hlen : (Lib.compact (sortL c)).length ≤ 1000000 := Nat.le_trans (KP.uniq_len c) hm
  obtain ⟨U, hU⟩ : ∃ U, Lib.compact (sortL c) = U := ⟨_, rfl⟩
  rw [hU] at ho2 HU HK hlen
  have hints := ho2.ints (by omega)
  obtain ⟨p2, c2, rfl, hl2, _, hcc⟩ := hints
  have HOW := Lib.hid ho2
  have HCC := Lib.hid hcc
  clear hcmp hb2 hB2 hU ho2 hcc HB1 hm HSL
  go_wp2
  go_loopw [3, 5, 11] (fun t _ i wr => ∃ k : Nat, k ≤ U.length ∧ i = .int .i64 k ∧ OwnB wr w2.heap.size t ((U.take k).flatMap fun x => Lib.itoa x ++ [32]) ∧ Below w2.heap.size w2 wr) (fun _ _ i _ => U.length - (intOf i).toNat)
  case atStart => exact ⟨0, Nat.zero_le _, rfl, OwnB.nil _ _, Below.refl _ _⟩
  case round =>
    obtain ⟨k, hk, rfl, hown, hb⟩ := hrel
    by_cases hlt : k < U.length
    · obtain ⟨b, off, rfl, e1⟩ := HCC.out (by omega)
      have d1 := (hb.cell (p := ⟨b, off + k, none⟩) (World.block_lt_of_cell? _ _ (e1 k hlt))).trans (e1 k hlt)
      have HS := Lib.hid (key_step U k hlt)
      have hxi : I64 (U.getD k 0) := HU.out _ (by rw [List.getD_eq_getElem?_getD, List.getElem?_eq_getElem hlt]; exact List.getElem_mem hlt)
      have hll : ((U.take k).flatMap fun x => Lib.itoa x ++ [32]).length ≤ 22000000 := by
        have := key_len (U.take k) fun x hx => HU.out x (List.mem_of_mem_take hx)
        rw [List.length_take] at this
        omega
      generalize hx : U.getD k 0 = x at d1 HS hxi
      obtain ⟨T, hT⟩ : ∃ T, ((U.take k).flatMap fun x => Lib.itoa x ++ [32]) = T := ⟨_, rfl⟩
      rw [hT] at hown HS hll
      have htab := (HTB.out.on HB2.out).on (hb.mono HB2.out.size)
      obtain ⟨pt, ct, rfl⟩ := owns_shape hown
      have ha := aint_own x hxi w2.heap.size (.slice pt T.length ct) T wr hown hb.size (by omega) (fun w' hw' => htab w' (hw'.mono HB2.out.size))
      have hil := itoa_len x hxi
      obtain ⟨T2, hT2⟩ : ∃ T2, T ++ Lib.itoa x = T2 := ⟨_, rfl⟩
      have hl3 : T2.length ≤ 22000021 := by rw [← hT2, List.length_append]; omega
      rw [hT2] at ha HS
      have HB := Lib.hid hb
      clear hb hown hT hT2 hx e1 htab hil hll
      go_wp2_with fail
      refine ha.mono ?_
      rintro e w3 ⟨t3, rfl, ho3, hb3⟩
      refine Hid.out ?_
      refine Lib.hid ?_
      have HB3 := Lib.hid (HB.out.trans hb3)
      obtain ⟨pt3, ct3, rfl⟩ := owns_shape ho3
      clear ha hb3
      go_wp2_with (at_builtin; refine wpList_append_own _ rfl _ _ 107 rfl w2.heap.size 5 i0 (.int .u8 0) 1 1 Tryd.underlying107 hi hz0 hz1 hz2 rfl (by decide) _ _ _ rfl (World.ownsRow.alloc ho3 _) ⟨w3.heap.size, 0, none⟩ 1 1 [.int .u8 32] rfl rfl ?c1 ?c2 ?c3 ?c4 ?c5 ?_)
      case c1 =>
        intro j u hj
        match j, hj with
        | 0, hj => simp at hj; subst hj; simp [Addr.add]
      case c2 => intro u hu; simp at hu; subst hu; rfl
      case c3 => unfold maxLen; simp; omega
      case c4 => simp; omega
      case c5 => have := HB3.out.size; simp; omega
      intro v' w4 hown' hgrow _
      have hlt2 := fun k hk => (World.ownsRow.lt ho3 k hk).1
      have hb' := (HB3.out.alloc HB3.out.size (.cells #[.int .u8 32] 5)).grown hgrow (by have := HB3.out.size; simp; omega) hlt2
      have hfin : OwnB w4 w2.heap.size v' ((U.take (k + 1)).flatMap fun x => Lib.itoa x ++ [32]) := by
        rw [HS.out]
        unfold OwnB
        rw [List.length_append, Lib.byteCells_append]
        exact hown'
      have HF := Lib.hid hfin
      have HB' := Lib.hid hb'
      clear ho3 hgrow hown' hb' hfin hlt2
      go_wp2
      go_roundw
      case rel => exact ⟨k + 1, by omega, by go_num, HF.out, HB'.out⟩
      case measure => simp [intOf]; omega
    · obtain rfl : k = U.length := by omega
      rw [List.take_length] at hown
      have hfin : Hid (Below w.heap.size w wr) := Lib.hid (HB2.out.trans (hb.mono HB2.out.size))
      rw [← HK.out, HKS.out] at hown
      rcases hown.2 with ⟨rfl, h0⟩ | ⟨g, cap, cur, rfl, hgb, hg, hn, hcap, hszc, htake⟩
      · obtain rfl : S = [] := List.length_eq_zero_iff.1 h0
        have hcv := run_convert_bytes_nil (P := Tryd.prog) wr 107 5 Tryd.underlying107 Tryd.underlying5 0 0 9 Tryd.underlying9
        clear hown hb h0
        go_wp2
        go_ret
        exact ⟨rfl, hfin.out⟩
      · have hcv := run_convert_bytes_back (P := Tryd.prog) wr 107 9 5 ⟨g, 0, none⟩ cap S Tryd.underlying107 Tryd.underlying5 Tryd.underlying9 (fun j hj => by
          have hadd : (⟨g, 0, none⟩ : Addr).add j = ⟨g, j, none⟩ := by unfold Addr.add; split <;> simp_all
          rw [hadd, World.ownsRow.cellAt hown j (by omega)]
          simp [Lib.byteCells, hj])
        clear hown hb hg htake hszc hn
        go_wp2
        go_ret
        exact ⟨rfl, hfin.out⟩
end L
end Go.Proofs.YtfhodbnhaaiceaaDoor
end

/- Unit propagation, plain: what follows, what fails, and when a set of literals is all that follows. -/
section
namespace Go.Proofs.YtfhodbnhaaiceaaDoor
namespace U

/-- What follows by unit propagation. -/
inductive Der (cs : List (List Int)) (asm : List Int) : Int → Prop
  | assume {x : Int} : x ∈ asm → Der cs asm x
  | unit {c : List Int} {x : Int} : c ∈ cs → x ∈ c → (∀ y ∈ c, y ≠ x → Der cs asm (-y)) → Der cs asm x
/-- It fails. -/
def Bad (cs : List (List Int)) (asm : List Int) : Prop := (∃ x, x ∈ asm ∧ -x ∈ asm) ∨ ∃ c ∈ cs, ∀ y ∈ c, Der cs asm (-y)

/-- A set of literals that is closed. -/
structure Closed (cs : List (List Int)) (asm : List Int) (T : Int → Prop) : Prop where
  has : ∀ x ∈ asm, T x
  con : ∀ x, T x → ¬ T (-x)
  cl : ∀ c ∈ cs, (∃ t ∈ c, T t) ∨ ∃ a b, a ∈ c ∧ b ∈ c ∧ a ≠ b ∧ ¬ T (-a) ∧ ¬ T (-b)

section
variable {cs : List (List Int)} {asm : List Int} {T : Int → Prop}
theorem Closed.of_der (h : Closed cs asm T) {x : Int} (hd : Der cs asm x) : T x := by
  induction hd with
  | assume hx => exact h.has _ hx
  | @unit c x hc hx _ ih =>
    rcases h.cl c hc with ⟨t, ht, hT⟩ | ⟨a, b, ha, hb, hab, h1, h2⟩
    · by_cases e : t = x
      · exact e ▸ hT
      · exact absurd (ih t ht e) (h.con t hT)
    · by_cases e : a = x
      · exact absurd (ih b hb (fun e2 => hab (e.trans e2.symm))) h2
      · exact absurd (ih a ha e) h1
theorem Closed.good (h : Closed cs asm T) : ¬ Bad cs asm := by
  rintro (⟨x, h1, h2⟩ | ⟨c, hc, hy⟩)
  · exact h.con x (h.has _ h1) (h.has _ h2)
  · rcases h.cl c hc with ⟨t, ht, hT⟩ | ⟨a, b, ha, hb, hab, h1, h2⟩
    · exact h.con t hT (h.of_der (hy t ht))
    · exact h1 (h.of_der (hy a ha))
theorem Der.mono {cs' : List (List Int)} {asm' : List Int} (h1 : ∀ c ∈ cs, c ∈ cs') (h2 : ∀ x ∈ asm, x ∈ asm') {x : Int} (h : Der cs asm x) : Der cs' asm' x := by
  induction h with
  | assume hx => exact .assume (h2 _ hx)
  | unit hc hx _ ih => exact .unit (h1 _ hc) hx ih
theorem Bad.mono {cs' : List (List Int)} {asm' : List Int} (h1 : ∀ c ∈ cs, c ∈ cs') (h2 : ∀ x ∈ asm, x ∈ asm') (h : Bad cs asm) : Bad cs' asm' := by
  rcases h with ⟨x, a, b⟩ | ⟨c, hc, hy⟩
  · exact .inl ⟨x, h2 _ a, h2 _ b⟩
  · exact .inr ⟨c, h1 _ hc, fun y hy' => (hy y hy').mono h1 h2⟩
/-- What follows, assumed, gives nothing more. -/
theorem Der.again {asm' : List Int} (h : ∀ x ∈ asm', Der cs asm x) {x : Int} (hd : Der cs asm' x) : Der cs asm x := by
  induction hd with
  | assume hx => exact h _ hx
  | unit hc hx _ ih => exact .unit hc hx ih
theorem Der.valid {n : Int} (hc : ∀ c ∈ cs, ∀ x ∈ c, x ≠ 0 ∧ -n ≤ x ∧ x ≤ n) (ha : ∀ x ∈ asm, x ≠ 0 ∧ -n ≤ x ∧ x ≤ n) {x : Int} (h : Der cs asm x) : x ≠ 0 ∧ -n ≤ x ∧ x ≤ n := by
  cases h with
  | assume hx => exact ha _ hx
  | unit h1 h2 _ => exact hc _ h1 _ h2
/-- Where it does not fail no literal and its negative follow. -/
theorem Der.con (hb : ¬ Bad cs asm) {x : Int} (h : Der cs asm x) : ¬ Der cs asm (-x) := by
  intro h2
  cases h with
  | assume hx =>
    cases h2 with
    | assume hx2 => exact hb (.inl ⟨x, hx, hx2⟩)
    | @unit c _ hc hm hy =>
      refine hb (.inr ⟨c, hc, fun y hyc => ?_⟩)
      by_cases e : y = -x
      · subst e; rw [Int.neg_neg]; exact .assume hx
      · exact hy y hyc e
  | @unit c _ hc hm hy =>
    refine hb (.inr ⟨c, hc, fun y hyc => ?_⟩)
    by_cases e : y = x
    · subst e; exact h2
    · exact hy y hyc e
/-- What follows is closed. -/
theorem Der.closed (hb : ¬ Bad cs asm) (_hz : ∀ c ∈ cs, ∀ x ∈ c, x ≠ 0) : Closed cs asm (Der cs asm) := by
  refine ⟨fun x hx => .assume hx, fun x h => h.con hb, fun c hc => ?_⟩
  apply Classical.byContradiction
  intro h
  rw [not_or] at h
  obtain ⟨h1, h2⟩ := h
  -- some literal is not false
  have ⟨a, ha, hna⟩ : ∃ a ∈ c, ¬ Der cs asm (-a) := by
    apply Classical.byContradiction
    intro h3
    exact hb (.inr ⟨c, hc, fun y hy => Classical.byContradiction fun h4 => h3 ⟨y, hy, h4⟩⟩)
  refine h1 ⟨a, ha, .unit hc ha fun y hy hne => Classical.byContradiction fun h4 => h2 ⟨a, y, ha, hy, fun e => hne e.symm, hna, h4⟩⟩
end

/-- The literal of a variable that is in a set; 0: none. -/
noncomputable def pickL (T : Int → Prop) (v : Nat) : Int := open Classical in if T (v : Int) then v else if T (-(v : Int)) then -(v : Int) else 0
/-- The literals of a set, by variables. -/
noncomputable def lits (n : Nat) (T : Int → Prop) : List Int := ((List.range (n + 1)).map (pickL T)).filter (· ≠ 0)
/-- What Units finds: none: it fails. -/
noncomputable def unitsOf (n : Nat) (cs : List (List Int)) (asm : List Int) : Option (List Int) := open Classical in if Bad cs asm then none else some (lits n (Der cs asm))

theorem pickL_congr {T T' : Int → Prop} (h : ∀ x, T x ↔ T' x) : pickL T = pickL T' := by
  have : T = T' := funext fun x => propext (h x)
  rw [this]
theorem lits_congr {n : Nat} {T T' : Int → Prop} (h : ∀ x, T x ↔ T' x) : lits n T = lits n T' := by
  have : T = T' := funext fun x => propext (h x)
  rw [this]
theorem unitsOf_bad {n : Nat} {cs : List (List Int)} {asm : List Int} (h : Bad cs asm) : unitsOf n cs asm = none := by simp [unitsOf, h]
theorem unitsOf_good {n : Nat} {cs : List (List Int)} {asm : List Int} (h : ¬ Bad cs asm) : unitsOf n cs asm = some (lits n (Der cs asm)) := by simp [unitsOf, h]
theorem unitsOf_closed {n : Nat} {cs : List (List Int)} {asm : List Int} {T : Int → Prop} (h : Closed cs asm T) (hs : ∀ x, T x → Der cs asm x) : unitsOf n cs asm = some (lits n T) := by
  rw [unitsOf_good h.good]
  exact congrArg some (lits_congr fun x => ⟨fun hd => h.of_der hd, hs x⟩)
/-- Whatever has the same consequences has the same answer. -/
theorem unitsOf_congr {n : Nat} {cs cs' : List (List Int)} {asm asm' : List Int} (hb : Bad cs asm ↔ Bad cs' asm') (hd : ∀ x, Der cs asm x ↔ Der cs' asm' x) : unitsOf n cs asm = unitsOf n cs' asm' := by
  by_cases h : Bad cs asm
  · rw [unitsOf_bad h, unitsOf_bad (hb.1 h)]
  · rw [unitsOf_good h, unitsOf_good (fun h' => h (hb.2 h'))]
    exact congrArg some (lits_congr hd)

theorem mem_lits {n : Nat} {T : Int → Prop} (hz : ¬ T 0) (hr : ∀ x, T x → -(n : Int) ≤ x ∧ x ≤ n) (hc : ∀ x, T x → ¬ T (-x)) (x : Int) : x ∈ lits n T ↔ T x := by
  simp only [lits, List.mem_filter, List.mem_map, List.mem_range, ne_eq, decide_not, Bool.not_eq_true', decide_eq_false_iff_not]
  constructor
  · rintro ⟨⟨v, hv, rfl⟩, hne⟩
    unfold pickL at hne ⊢
    by_cases h1 : T (v : Int)
    · simp [h1]
    · by_cases h2 : T (-(v : Int))
      · simp [h1, h2]
      · simp [h1, h2] at hne
  · intro hx
    have hx0 : x ≠ 0 := fun e => hz (e ▸ hx)
    refine ⟨⟨x.natAbs, by have := hr x hx; omega, ?_⟩, hx0⟩
    unfold pickL
    rcases Int.le_total 0 x with h | h
    · have e : (x.natAbs : Int) = x := by omega
      simp [e, hx]
    · have e : (x.natAbs : Int) = -x := by omega
      have h1 := hc x hx
      simp [e, hx, h1]
theorem natAbs_pickL (T : Int → Prop) (v : Nat) (h : pickL T v ≠ 0) : (pickL T v).natAbs = v := by
  unfold pickL at h ⊢
  split
  · omega
  · split
    · omega
    · rename_i h1 h2; simp [h1, h2] at h
/-- By variables: their absolute values grow. -/
theorem lits_pairwise (n : Nat) (T : Int → Prop) : (lits n T).Pairwise fun x y => x.natAbs < y.natAbs := by
  unfold lits
  rw [List.pairwise_filter, List.pairwise_map]
  refine List.Pairwise.imp ?_ (List.pairwise_lt_range (n := n + 1))
  intro a b hab h1 h2
  have e1 := natAbs_pickL T a (by simpa using h1)
  have e2 := natAbs_pickL T b (by simpa using h2)
  omega
theorem lits_length (n : Nat) (T : Int → Prop) : (lits n T).length ≤ n + 1 := by
  unfold lits
  refine Nat.le_trans (List.length_filter_le _ _) (by simp)
end U
end Go.Proofs.YtfhodbnhaaiceaaDoor
end
