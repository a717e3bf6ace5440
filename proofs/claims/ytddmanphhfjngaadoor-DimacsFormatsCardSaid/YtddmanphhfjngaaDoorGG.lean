/- DimacsFormats: the walk. -/
import Derived.Test.YtddmanphhfjngaaDoorGB
import Derived.Test.YtddmanphhfjngaaDoorFD
import Derived.Test.YtddmanphhfjngaaDoorXI
namespace Go.Proofs.YtddmanphhfjngaaDoor
open Go.RowKit PA
namespace L
open K

theorem small_text {n : Int} {L : List (List Int)} (hn : I64 n) (hi : ∀ l ∈ L, ∀ x ∈ l, I64 x) (hs : smallB L = true) : (textT n L).length ≤ 65536 := by
  obtain ⟨h1, h2⟩ := small_len hs
  have hcl := clauses_len L 882 (fun c hc => by
    have := clause_len c (fun x hx => by have := hi c hc x hx; exact Lib.itoa_length_le x this.1 this.2)
    obtain ⟨j, hj, rfl⟩ := List.mem_iff_getElem.1 hc
    have h3 := h2 j hj
    rw [List.getD_eq_getElem?_getD, List.getElem?_eq_getElem hj, Option.getD_some] at h3
    omega)
  have hhd := head_len n L.length hn.1 hn.2 (by omega)
  unfold textT
  rw [List.length_append]
  have : L.length * 882 ≤ 60 * 882 := Nat.mul_le_mul_right _ h1
  omega
theorem str_self (a : ByteArray) : (a.toList == a.toList) = true := by rw [beq_iff_eq]
set_option maxRecDepth 100000 in
set_option maxHeartbeats 8000000 in
theorem formats_walk (n : Int) (v : Value) (L : List (List Int)) (w : World) (ht : Tab w) (hn0 : (Lit.int .i64 n).wf = true) (hW : ListsW .i64 w v L) :
    Calls Tryd.prog 3 #[.agg #[.int .i64 n, v]] w fun e w' => e = .returned (.bool true) ∧ Below w.heap.size w w' := by
  have HT := Lib.hid ht
  have hn := wf64 hn0
  have hi : ∀ l ∈ L, ∀ x ∈ l, I64 x := fun l hl x hx => wf64 (hW.wf l hl x hx)
  have hv : ∃ p c, v = .slice p L.length c := by obtain ⟨p, c, h, _⟩ := hW; exact ⟨p, c, h⟩
  obtain ⟨p, c, rfl⟩ := hv
  have hal : Below w.heap.size w (w.alloc (.cells #[.int .i64 n, .slice p L.length c] 24)) := (Below.refl _ _).alloc (Nat.le_refl _) _
  have hX := Box.new w 24 #[.int .i64 n, .slice p L.length c]
  have hsm := small_any n (.slice p L.length c) L _ (hW.below hal)
  have x0 := hX.cell 0
  have x1 := hX.cell 1
  have xs := hX.lt
  simp only [List.getElem?_toArray, List.getElem?_cons_zero, List.getElem?_cons_succ] at x0 x1
  have HAL := Lib.hid hal
  have HW := Lib.hid hW
  have HI := Lib.hid hi
  have HN := Lib.hid hn
  clear ht hn0 hW hal hX hi hn
  cases hs : smallB L with
  | false =>
    rw [hs] at hsm
    go_enter Tryd.func3, Tryd.ntmps3
    go_wp2_with (first
      | (go_at_call 11; refine hsm.mono ?_; rintro e w1 ⟨rfl, hb1⟩; have HB1 := Lib.hid (HAL.out.trans (hb1.mono HAL.out.size)); clear hb1)
      | (go_at_call 12; refine (known_any _ (HT.out.below HB1.out)).mono ?_; rintro e w6 ⟨rfl, hb6⟩))
    have hB6 := HB1.out.trans (hb6.mono HB1.out.size)
    go_ret
    exact ⟨rfl, hB6⟩
  | true =>
    have hL : Lists w (.slice p L.length c) L := ListsW.small HW.out hs
    have htx := small_text HN.out HI.out hs
    rw [hs] at hsm
    have HL := Lib.hid hL
    have HTX := Lib.hid htx
    clear hL htx hs
    go_enter Tryd.func3, Tryd.ntmps3
    go_wp2_with (go_at_call 11; refine hsm.mono ?_; rintro e w1 ⟨rfl, hb1⟩; refine Hid.out ?_)
    refine Lib.hid ?_
    have y0 := (hb1.cell (p := ⟨w.heap.size, 0, none⟩) xs).trans x0
    have y1 := (hb1.cell (p := ⟨w.heap.size, 1, none⟩) xs).trans x1
    have ys := Nat.lt_of_lt_of_le xs hb1.size
    have HB1 := Lib.hid (HAL.out.trans (hb1.mono HAL.out.size))
    have hf := format_any n (.slice p L.length c) L w1 HN.out HI.out (HL.out.below HB1.out) (HT.out.below HB1.out)
    have hr := fun W (hb : Below w.heap.size w W) => rformat_any n (.slice p L.length c) L W HN.out HI.out (HL.out.below hb) (HT.out.below hb) HTX.out
    generalize fmtS n L = F at *
    obtain ⟨F1, F2⟩ := F
    simp only at hf hr
    have hss := str_self ⟨F1.toArray⟩
    generalize (⟨F1.toArray⟩ : ByteArray) = S at *
    have hee : (F2 == F2) = true := by simp
    have HR := Lib.hid hr
    clear hsm x0 x1 xs hb1 hr
    go_wp2_with (go_at_call 13; refine hf.mono ?_; rintro e w2 ⟨rfl, hb2⟩; refine Hid.out ?_)
    refine Lib.hid ?_
    have z0 := (hb2.cell (p := ⟨w.heap.size, 0, none⟩) ys).trans y0
    have z1 := (hb2.cell (p := ⟨w.heap.size, 1, none⟩) ys).trans y1
    have HB2 := Lib.hid (HB1.out.trans (hb2.mono HB1.out.size))
    clear hf y0 y1 ys hb2
    go_wp2_with (first
      | (go_at_call 14; refine (HR.out _ HB2.out).mono ?_; rintro e w3 ⟨rfl, hb3⟩; have HB3 := Lib.hid (HB2.out.trans (hb3.mono HB2.out.size)); clear hb3)
      | (go_at_call 12; refine (known_any _ (HT.out.below HB3.out)).mono ?_; rintro e w6 ⟨rfl, hb6⟩))
    have hB6 := HB3.out.trans (hb6.mono HB3.out.size)
    go_ret
    exact ⟨rfl, hB6⟩
end L
end Go.Proofs.YtddmanphhfjngaaDoor
