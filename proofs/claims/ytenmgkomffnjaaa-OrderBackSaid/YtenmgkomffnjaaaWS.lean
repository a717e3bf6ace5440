/- OrderSorts: what is popped are all variables, each once, in order. -/
import Derived.Test.YtenmgkomffnjaaaHO
namespace Go.Proofs.Ytenmgkomffnjaaa
open Go.RowKit
namespace L
open K HP
set_option maxRecDepth 100000

theorem infoB : (Try.prog.info? 4).map (fun i => (i.zero, i.size, i.bytes)) = some (some (.bool false), 1, 1) := by kernel_rfl
/-- Which numbers were seen among the first k. -/
def SeenTo (n : Nat) (out : List Nat) (k : Nat) (B : List Bool) : Prop := B.length = n + 1 ∧ ∀ j, j ≤ n → (B.getD j false = true ↔ ∃ i, i < k ∧ out.getD i 0 + 1 = j)
theorem seen_start (n : Nat) (out : List Nat) : SeenTo n out 0 (List.replicate (n + 1) false) :=
  ⟨by simp, fun j hj => ⟨fun h => by simp [List.getD, show j < n + 1 by omega] at h, fun ⟨i, hi, _⟩ => absurd hi (Nat.not_lt_zero _)⟩⟩
theorem SeenTo.step {n : Nat} {out : List Nat} {k : Nat} {B : List Bool} (h : SeenTo n out k B) (hx : out.getD k 0 + 1 ≤ n) : SeenTo n out (k + 1) (B.set (out.getD k 0 + 1) true) := by
  refine ⟨by simpa using h.1, fun j hj => ?_⟩
  have hl : out.getD k 0 + 1 < B.length := by rw [h.1]; omega
  by_cases e : j = out.getD k 0 + 1
  · have : (B.set (out.getD k 0 + 1) true).getD j false = true := by
      rw [e, List.getD_eq_getElem?_getD, List.getElem?_set, if_pos rfl, if_pos hl]; rfl
    exact ⟨fun _ => ⟨k, by omega, e.symm⟩, fun _ => this⟩
  · have : (B.set (out.getD k 0 + 1) true).getD j false = B.getD j false := by
      rw [List.getD_eq_getElem?_getD, List.getElem?_set, if_neg (fun h => e h.symm), ← List.getD_eq_getElem?_getD]
    rw [this, h.2 j hj]
    constructor
    · rintro ⟨i, hi, h2⟩; exact ⟨i, by omega, h2⟩
    · rintro ⟨i, hi, h2⟩
      refine ⟨i, ?_, h2⟩
      by_cases hik : i = k
      · subst hik; exact absurd h2.symm e
      · omega
theorem Drains.inj {A : List Int} {M : Nat → Prop} {out : List Nat} (h : Drains A M out) {i j : Nat} (hi : i < out.length) (hj : j < out.length) (e : out.getD i 0 = out.getD j 0) : i = j := by
  have hn := List.nodup_iff_pairwise_ne.1 h.nodup
  rw [List.pairwise_iff_getElem] at hn
  have e' : out[i] = out[j] := by simpa [List.getD, hi, hj] using e
  by_cases h1 : i < j
  · exact absurd e' (hn i j hi hj h1)
  · by_cases h2 : j < i
    · exact absurd e'.symm (hn j i hj hi h2)
    · omega
theorem Drains.at {A : List Int} {M : Nat → Prop} {out : List Nat} (h : Drains A M out) {k : Nat} (hk : k + 1 < out.length) : Pre A (out.getD k 0) (out.getD (k + 1) 0) := by
  have hn := h.1
  rw [List.pairwise_iff_getElem] at hn
  have := hn k (k + 1) (by omega) hk (by omega)
  simpa [List.getD, hk, show k < out.length by omega] using this

set_option maxHeartbeats 8000000 in
theorem sorts_walk (v : Value) (l : List Int) (w : World) (hW : IntsW .u16 w v l) :
    Calls Try.prog 6 #[v] w fun e w' => e = .returned (.bool true) ∧ Below w.heap.size w w' := by
  have hmade := fun (h : l.length ≤ 200) => made_any v l w hW h
  obtain ⟨iB, hiB, hzB0, hzB1, hzB2⟩ := info_parts infoB
  obtain ⟨pv, c, rfl, _, _, hwf, hcell⟩ := hW
  have hbd := u16_bd hwf
  have HK := Lib.hid (fun W => known_any W)
  have HM := Lib.hid hmade
  have HBD := Lib.hid hbd
  have HC := Lib.hid hcell
  clear hmade hwf hbd hcell
  by_cases h200 : (200 : Int) < l.length
  · go_enter Try.func6, Try.ntmps6
    go_wp2_with (go_at_call 11; refine (HK.out _).mono ?_; rintro e w3 ⟨rfl, hb⟩)
    go_ret
    exact ⟨rfl, hb⟩
  · have hl200 : l.length ≤ 200 := by omega
    go_enter Try.func6, Try.ntmps6
    go_wp2_with (go_at_call 26; refine (HM.out hl200).mono ?_; rintro e w1 ⟨p1, rfl, h1, hb1⟩; refine Hid.out ?_)
    have hall := all_any h1 hl200
    have HA := Lib.hid hall
    have HB1 := Lib.hid hb1
    obtain ⟨g1, rfl⟩ := h1.ptr
    clear h1 hb1 hall
    refine Lib.hid ?_
    go_wp2_with (go_at_call 27; refine (HA.out).mono ?_; rintro e w2 ⟨v1, out, rfl, d1, l1, k1, hh1, ho1⟩; refine Hid.out ?_)
    have hs2 : w1.heap.size ≤ w2.heap.size := ho1.size
    have HB2 : Hid (Below w.heap.size w w2) := Lib.hid (HB1.out.trans (ho1.to_below HB1.out.size (Nat.le_refl _)))
    have hsz2 : w.heap.size ≤ w2.heap.size := HB2.out.size
    have hk1 := k1.ints (by rw [nums_len]; omega)
    have hout : (nums out).length = l.length := by rw [nums_len, l1]
    obtain ⟨p1, c1, rfl⟩ := owns_shape k1
    rw [hout]
    have HD := Lib.hid d1
    have HL := Lib.hid l1
    have HK1 := Lib.hid hk1
    have HH1 := Lib.hid hh1
    have HON := Lib.hid hout
    clear d1 l1 k1 hh1 ho1 hk1 hout
    refine Lib.hid ?_
    go_wp2_with (at_make; refine wpList_make_full _ rfl _ _ 47 rfl w2.heap.size 4 iB (.bool false) 1 Try.underlying47 hiB hzB0 hzB1 .i64 .i64 _ _ (l.length + 1) rfl rfl rfl rfl (by rw [hzB2]; omega) (by unfold maxLen; omega) (Nat.le_refl _) ?_)
    intro w3 hown hgrow
    rw [toList_madeCells_one] at hown
    have hb3 := (Below.refl w2.heap.size w2).grown hgrow (Nat.le_refl _) (fun k h => by cases h)
    have HOW := Lib.hid (show w3.ownsRow w2.heap.size 4 1 (.slice (some ⟨w2.heap.size, 0, none⟩) (l.length + 1) (l.length + 1)) (l.length + 1) ((List.replicate (l.length + 1) false).map Value.bool) by rw [List.map_replicate]; exact hown)
    have HB3 := Lib.hid hb3
    clear hown hgrow hb3
    go_wp2
    go_loopw [6] (fun iv wr => ∃ (k : Nat) (B : List Bool), k ≤ l.length ∧ iv = .int .i64 k ∧ SeenTo l.length out k B ∧ wr.ownsRow w2.heap.size 4 1 (.slice (some ⟨w2.heap.size, 0, none⟩) (l.length + 1) (l.length + 1)) (l.length + 1) (B.map Value.bool) ∧ Below w2.heap.size w2 wr) (fun iv _ => l.length - (intOf iv).toNat)
    case atStart => exact ⟨0, _, Nat.zero_le _, rfl, seen_start _ _, HOW.out, HB3.out⟩
    case round =>
      clear HOW HB3
      obtain ⟨k, B, hk, rfl, hseen, hown, hb⟩ := hrel
      by_cases hlt : k < l.length
      · have hko : k < out.length := by rw [HL.out]; exact hlt
        -- the number at hand
        have hxn : out.getD k 0 < l.length := (HD.out.2 _).1 (mem_getD_nat hko)
        have hnew : B.getD (out.getD k 0 + 1) false = false := by
          rw [← Bool.not_eq_true]
          intro h
          obtain ⟨i, hi, e⟩ := (hseen.2 _ (by omega)).1 h
          have := Drains.inj HD.out (by omega) hko (by omega : out.getD i 0 = out.getD k 0)
          omega
        obtain ⟨bo, oo, hpo, eo⟩ := (show ∃ b off, p1 = some ⟨b, off, none⟩ ∧ ∀ j, j < l.length → w2.cell? ⟨b, off + j, none⟩ = some (.int .i64 ((nums out).getD j 0)) by
          obtain ⟨p', c', hv, _, _, hc⟩ := HK1.out
          rw [HON.out] at hc hv
          simp only [Value.slice.injEq] at hv
          obtain ⟨rfl, _, _⟩ := hv
          exact hc (by omega))
        subst hpo
        have dk := (hb.cell (p := ⟨bo, oo + k, none⟩) (World.block_lt_of_cell? _ _ (eo k hlt))).trans (eo k hlt)
        rw [nums_at hko] at dk
        obtain ⟨bl, ol, rfl, el⟩ := HC.out (by omega)
        have hbw : Below w.heap.size w wr := HB2.out.trans (hb.mono hsz2)
        have dx := (hbw.cell (p := ⟨bl, ol + out.getD k 0, none⟩) (World.block_lt_of_cell? _ _ (el _ hxn))).trans (el _ hxn)
        have hBl := hseen.1
        have ds : wr.cell? ⟨w2.heap.size, out.getD k 0 + 1, none⟩ = some (.bool false) := by
          rw [hown.cellAt _ (by omega)]
          rw [List.getElem?_map]
          have h1 : B[out.getD k 0 + 1]? = some false := by
            have h2 := hnew
            rw [List.getD_eq_getElem?_getD, List.getElem?_eq_getElem (show out.getD k 0 + 1 < B.length by omega)] at h2
            rw [List.getElem?_eq_getElem (show out.getD k 0 + 1 < B.length by omega)]
            simpa using h2
          rw [h1]; rfl
        have fs := hown.frozenAt (out.getD k 0 + 1)
        have hst := (hown.stored (out.getD k 0 + 1) (.bool true)).1
        have hrow := hseen.step (by omega : out.getD k 0 + 1 ≤ l.length)
        have hst2 : (wr.setCell ⟨w2.heap.size, out.getD k 0 + 1, none⟩ (.bool true)).ownsRow w2.heap.size 4 1 (.slice (some ⟨w2.heap.size, 0, none⟩) (l.length + 1) (l.length + 1)) (l.length + 1) ((B.set (out.getD k 0 + 1) true).map Value.bool) := by
          rw [List.map_set]; exact hst
        have hbs := hb.setCell (p := ⟨w2.heap.size, out.getD k 0 + 1, none⟩) (Nat.le_refl _) (.bool true)
        have HST := Lib.hid hst2
        have HROW := Lib.hid hrow
        have HBS := Lib.hid hbs
        have hkeep : ∀ p : Addr, p.block < w2.heap.size → (wr.setCell ⟨w2.heap.size, out.getD k 0 + 1, none⟩ (.bool true)).cell? p = wr.cell? p := fun p hp => World.cell?_of_block (w := wr) (Below.heap_setCell _ _ _ _ (Nat.ne_of_lt hp))
        have lo1 := World.block_lt_of_cell? _ _ (eo k hlt)
        have ll1 := Nat.lt_of_lt_of_le (World.block_lt_of_cell? _ _ (el _ hxn)) hsz2
        have dk2 := (hkeep ⟨bo, oo + k, none⟩ lo1).trans dk
        have dx2 := (hkeep ⟨bl, ol + out.getD k 0, none⟩ ll1).trans dx
        by_cases hk0 : k = 0
        · subst hk0
          simp only [Nat.add_zero] at dk dk2
          generalize out.getD 0 0 = x at *
          generalize l.getD x 0 = lx at *
          clear hst hst2 hrow hbs hseen hown hb hnew hbw hBl eo el hkeep
          have HKO := Lib.hid hko
          clear hko
          go_wp2
          go_quiet (fail)
          go_wp2
          go_roundw
          case rel => exact ⟨1, _, by omega, by go_num, HROW.out, owns_heap HST.out rfl, below_drewN HBS.out _⟩
          case measure => simp [intOf]; omega
        · obtain ⟨m, rfl⟩ : ∃ m, k = m + 1 := ⟨k - 1, by omega⟩
          have hmo : m < out.length := by omega
          have hym : out.getD m 0 < l.length := (HD.out.2 _).1 (mem_getD_nat hmo)
          have hpre := Drains.at HD.out (k := m) hko
          have lo2 := World.block_lt_of_cell? _ _ (eo m (by omega))
          have dy := (hkeep ⟨bo, oo + m, none⟩ lo2).trans ((hb.cell (p := ⟨bo, oo + m, none⟩) lo2).trans (eo m (by omega)))
          rw [nums_at hmo] at dy
          have ly := Nat.lt_of_lt_of_le (World.block_lt_of_cell? _ _ (el _ hym)) hsz2
          have dly := (hkeep ⟨bl, ol + out.getD m 0, none⟩ ly).trans ((hbw.cell (p := ⟨bl, ol + out.getD m 0, none⟩) (World.block_lt_of_cell? _ _ (el _ hym))).trans (el _ hym))
          unfold Pre at hpre
          generalize out.getD (m + 1) 0 = x at *
          generalize out.getD m 0 = y at *
          generalize l.getD x 0 = lx at *
          generalize l.getD y 0 = ly0 at *
          clear hst hst2 hrow hbs hseen hown hb hnew hbw hBl eo el hkeep
          have HKO := Lib.hid hko
          clear hko
          have g0 : decide (ly0 < lx) = false := by rw [decide_eq_false_iff_not]; omega
          by_cases he : ly0 = lx
          · have g1 : (ly0 == lx) = true := by simpa using he
            have g2 : decide ((y : Int) + 1 > (x : Int) + 1) = false := by rw [decide_eq_false_iff_not]; omega
            have hpm : (m : Int) + 1 > 0 := by omega
            go_wp2
            go_quiet (fail)
            go_wp2
            go_roundw
            case rel => exact ⟨m + 1 + 1, _, by omega, by go_num, HROW.out, owns_heap HST.out rfl, below_drewN HBS.out _⟩
            case measure => simp [intOf]; omega
          · have g1 : (ly0 == lx) = false := by simpa using he
            have hpm : (m : Int) + 1 > 0 := by omega
            go_wp2
            go_quiet (fail)
            go_wp2
            go_roundw
            case rel => exact ⟨m + 1 + 1, _, by omega, by go_num, HROW.out, owns_heap HST.out rfl, below_drewN HBS.out _⟩
            case measure => simp [intOf]; omega
      · obtain rfl : k = l.length := by omega
        have hlen := lenH_any (HH1.out.below hb hs2)
        have hbw : Below w.heap.size w wr := HB2.out.trans (hb.mono hsz2)
        have HLN := Lib.hid hlen
        have HBW := Lib.hid hbw
        clear hlen hseen hown hb hbw
        go_wp2_with (first
          | (go_at_call 22; with_reducible refine (HLN.out).mono ?_; rintro e w5 ⟨rfl, rfl⟩)
          | (go_at_call 11; with_reducible refine (HK.out _).mono ?_; rintro e w6 ⟨rfl, hb6⟩))
        go_ret
        exact ⟨rfl, HBW.out.trans (hb6.mono HBW.out.size)⟩
end L
end Go.Proofs.Ytenmgkomffnjaaa
