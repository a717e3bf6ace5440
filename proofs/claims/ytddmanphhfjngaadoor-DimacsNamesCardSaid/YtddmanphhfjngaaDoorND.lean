/- The closure of strings.Lines as an iterator. -/
import Derived.Test.YtddmanphhfjngaaDoorNC
import Derived.Test.YtddmanphhfjngaaDoorYA
namespace Go.Proofs.YtddmanphhfjngaaDoor
open Go.RowKit PA RA
namespace L
open K
attribute [local go_sem] Oper.semAt_some

def strLen (W : World) (B : Nat) : Nat := match W.cell? ⟨B, 0, none⟩ with | some (.string t) => t.size | _ => 0
theorem strLen_eq {W : World} {B : Nat} {t : ByteArray} (h : Box W B 9 #[.string t]) : strLen W B = t.size := by
  unfold strLen; rw [h.cell 0]; rfl
/-- Line k of a text. -/
def lineAt (s : ByteArray) (k : Nat) : ByteArray := ⟨((lns s.data.toList).getD k []).toArray⟩

theorem extract_take (t : ByteArray) (k : Nat) : (t.extract 0 k).data.toList = t.data.toList.take k := by
  rw [ByteArray.data_extract, Array.toList_extract, List.extract_eq_take_drop, Nat.sub_zero, List.drop_zero]
theorem getD_of_drop {L R : List (List UInt8)} {x : List UInt8} {k : Nat} (h : x :: R = L.drop k) : k < L.length ∧ L.getD k [] = x ∧ R = L.drop (k + 1) := by
  have hk : k < L.length := by
    by_cases hk : k < L.length
    · exact hk
    · rw [List.drop_eq_nil_of_le (by omega)] at h; cases h
  rw [List.drop_eq_getElem_cons hk] at h
  injection h with h1 h2
  exact ⟨hk, by rw [List.getD_eq_getElem?_getD, List.getElem?_eq_getElem hk]; exact h1.symm, h2⟩
theorem line_of {s : ByteArray} {t : ByteArray} {k : Nat} (h : (lns s.data.toList).getD k [] = t.data.toList) : lineAt s k = t := by
  unfold lineAt; rw [h]
theorem box_set {W : World} {B : Nat} {t u : ByteArray} (h : Box W B 9 #[.string t]) : Box (W.setCell ⟨B, 0, none⟩ (.string u)) B 9 #[.string u] := by
  have := h.set 0 (.string u)
  simpa using this
theorem box_keep {W W' : World} {B : Nat} {T : TypeId} {cs : Array Value} (h : Box W B T cs) {p : Nat → Prop} (hk : Keep p W W') (hp : p B) : Box W' B T cs := hk.heap h hp

set_option maxRecDepth 100000 in
set_option maxHeartbeats 2000000 in
theorem lines_iter (s : ByteArray) (B : Nat) (w : World) (hs : s.size ≤ 9223372036854775806) (hbox : Box w B 9 #[.string s]) :
    Iter Tryd.prog 55 #[.pointer (some ⟨B, 0, none⟩)] (lns s.data.toList).length (fun k _ args => args = #[.string (lineAt s k)]) (fun i => i = B) w := by
  intro l J Jx hJ hJx hY h0
  refine callsIn_of_wp Tryd.func55 rfl trivial ?_ rfl
  simp only [Tryd.ntmps55, List.size_toArray, List.length_cons, List.length_nil, Nat.reduceAdd, Nat.reduceSub, Array.replicate_succ, Array.replicate_zero, List.push_toArray, List.append_toArray, List.nil_append, List.cons_append]
  gi_wp2
  gi_loopw [3, 4] (fun _ _ wr => ∃ (k : Nat) (t : ByteArray), k ≤ (lns s.data.toList).length ∧ J k wr ∧ Box wr B 9 #[.string t] ∧ lns t.data.toList = (lns s.data.toList).drop k ∧ t.size ≤ s.size) (fun _ _ wr => strLen wr B)
  case atStart => exact ⟨0, s, Nat.zero_le _, h0, hbox, rfl, Nat.le_refl _⟩
  case round =>
    obtain ⟨k, t, hk, hj, hb, hl, ht⟩ := hrel
    have hc := hb.cell 0
    have hf := hb.frozen 0
    simp only [List.getElem?_toArray, List.getElem?_cons_zero] at hc
    have HB := Lib.hid hb
    have HL := Lib.hid hl
    have HM : Hid (strLen wr B = t.size) := strLen_eq hb
    clear hb hl
    by_cases h0 : t.size = 0
    · have hnil : t.data.toList = [] := List.eq_nil_of_length_eq_zero (by rw [← Lib.size_eq]; exact h0)
      have hkl : k = (lns s.data.toList).length := by
        have := HL.out
        rw [hnil, lns_nil] at this
        have h2 := List.drop_eq_nil_iff.1 this.symm
        omega
      clear hnil
      gi_wp2
      go_end0
      exact ⟨⟨_, rfl⟩, .inl (hkl ▸ hj)⟩
    · have hpos : 0 < t.size := by omega
      obtain ⟨i, hi⟩ : ∃ i, Lib.indexByte t.data.toList 10 = i := ⟨_, rfl⟩
      have hix := Tryd.strings_IndexByte t 10 wr
      rw [show (10 : Int).toNat.toUInt8 = 10 from rfl, hi] at hix
      have HI := Lib.hid hi
      clear hi
      by_cases hneg : i < 0
      · have hne : t.data.toList ≠ [] := by intro h; have := Lib.size_eq t; rw [h, List.length_nil] at this; omega
        have hl1 := lns_last t.data.toList (by rw [HI.out]; exact hneg) hne
        rw [HL.out] at hl1
        obtain ⟨hklt, hline, hrest⟩ := getD_of_drop hl1.symm
        have hline' := line_of hline
        have hb2 := box_set (u := ⟨#[]⟩) HB.out
        have hk2 : Keep (fun i => ¬ i = B) wr (wr.setCell ⟨B, 0, none⟩ (.string ⟨#[]⟩)) := (Keep.refl _ _).setCell (fun h => h rfl) _
        obtain ⟨fn, tmps, assign, body, hy, hR⟩ := hY k _ _ hklt rfl (hJ _ _ _ hj hk2)
        rw [hline'] at hy
        have HR := Lib.hid hrest
        have HKL := Lib.hid hklt
        have HB2 := Lib.hid hb2
        clear hne hl1 hline hline' hrest hklt hb2 hk2
        gi_wp2
        refine ⟨trivial, rfl, (callsIn_wide.2 hix).mono ?_⟩
        rintro e w' ⟨rfl, rfl⟩
        clear hix
        gi_wp2
        refine ⟨(by simp [Fence.wide]), hR.mono ?_⟩
        rintro e W3 (⟨rfl, hJ3, hk3⟩ | ⟨rfl, hJx3, _⟩)
        · have HB3 : Hid (Box W3 B 9 #[.string ⟨#[]⟩]) := Lib.hid (box_keep HB2.out hk3 rfl)
          gi_wp2
          go_roundw
          case rel => exact ⟨k + 1, ⟨#[]⟩, HKL.out, hJ3, HB3.out, HR.out, Nat.zero_le _⟩
          case measure => rw [strLen_eq HB3.out, HM.out]; exact hpos
        · gi_wp2
          refine bodyPost_ret (results_none rfl _ _ _) rfl ?_
          exact ⟨⟨_, rfl⟩, .inr ⟨k + 1, HKL.out, hJx3⟩⟩
      · have hnn : 0 ≤ i := by omega
        obtain ⟨q, rfl⟩ := Int.eq_ofNat_of_zero_le hnn
        have hcut := lns_cut t.data.toList q HI.out
        obtain ⟨hq1, _, _⟩ := index_some _ _ _ HI.out
        rw [← Lib.size_eq] at hq1
        rw [HL.out] at hcut
        obtain ⟨hklt, hline, hrest⟩ := getD_of_drop hcut.symm
        have hline' := line_of (t := t.extract 0 (q + 1)) (hline.trans (extract_take _ _).symm)
        rw [← Lib.extract_to_end] at hrest
        have hb2 := box_set (u := t.extract (q + 1) t.size) HB.out
        have hk2 : Keep (fun i => ¬ i = B) wr (wr.setCell ⟨B, 0, none⟩ (.string (t.extract (q + 1) t.size))).drew := ((Keep.refl _ _).setCell (fun h => h rfl) _).drew
        obtain ⟨fn, tmps, assign, body, hy, hR⟩ := hY k _ _ hklt rfl (hJ _ _ _ hj hk2)
        rw [hline'] at hy
        have HR := Lib.hid hrest
        have HKL := Lib.hid hklt
        have HB2 := Lib.hid hb2
        have hi1 : (q : Int) + 1 ≤ (t.size : Int) := by omega
        have hts : (((q : Int) + 1)).toNat = q + 1 := by omega
        have HTS := Lib.hid hts
        clear hcut hline hline' hrest hklt hb2 hk2 hts
        gi_wp2
        refine ⟨trivial, rfl, (callsIn_wide.2 hix).mono ?_⟩
        rintro e w' ⟨rfl, rfl⟩
        clear hix
        gi_wp2
        gi_region
        gi_wp2
        refine ⟨(by simp [Fence.wide]), hR.mono ?_⟩
        rintro e W3 (⟨rfl, hJ3, hk3⟩ | ⟨rfl, hJx3, _⟩)
        · have HB3 : Hid (Box W3 B 9 #[.string (t.extract (q + 1) t.size)]) := Lib.hid (hk3.heap (Box.heap HB2.out rfl) rfl)
          gi_wp2
          go_roundw
          case rel => exact ⟨k + 1, _, HKL.out, hJ3, HB3.out, HR.out, by rw [ByteArray.size_extract]; omega⟩
          case measure => rw [strLen_eq HB3.out, HM.out, ByteArray.size_extract]; omega
        · gi_wp2
          refine bodyPost_ret (results_none rfl _ _ _) rfl ?_
          exact ⟨⟨_, rfl⟩, .inr ⟨k + 1, HKL.out, hJx3⟩⟩
end L
end Go.Proofs.YtddmanphhfjngaaDoor
