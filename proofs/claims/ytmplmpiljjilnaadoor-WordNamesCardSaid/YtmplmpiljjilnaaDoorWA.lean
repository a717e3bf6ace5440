/- WordApplies, WordTrims: the walks. -/
import Derived.Test.YtmplmpiljjilnaaDoorQL
namespace Go.Proofs.YtmplmpiljjilnaaDoor
open Go.RowKit
open L
namespace W9
set_option maxRecDepth 100000

theorem u8_nat9 {a : Int} (h : (Lit.int .u8 a).wf = true) : ∃ k : Nat, a = (k : Int) ∧ k < 256 := by
  simp [Lit.wf, IntKind.min, IntKind.max, IntKind.signed, IntKind.bits] at h
  exact ⟨a.toNat, by omega, by omega⟩
theorem u64_nat9 {a : Int} (h : (Lit.int .u64 a).wf = true) : ∃ k : Nat, a = (k : Int) ∧ k < 18446744073709551616 := by
  simp [Lit.wf, IntKind.min, IntKind.max, IntKind.signed, IntKind.bits] at h
  exact ⟨a.toNat, by omega, by omega⟩
theorem list_nat9 (l : List Int) (h : ∀ n ∈ l, (Lit.int .u64 n).wf = true) : ∃ L : List Nat, l = L.map (fun n : Nat => (n : Int)) ∧ ∀ x ∈ L, x < 18446744073709551616 := by
  induction l with
  | nil => exact ⟨[], rfl, by simp⟩
  | cons a l ih =>
    obtain ⟨L, rfl, hL⟩ := ih (fun n hn => h n (List.mem_cons_of_mem _ hn))
    obtain ⟨k, rfl, hk⟩ := u64_nat9 (h a (List.mem_cons_self ..))
    exact ⟨k :: L, rfl, by intro x hx; rcases List.mem_cons.1 hx with rfl | h'; exact hk; exact hL x h'⟩
theorem words_row {w : World} {v : Value} {l : List Int} (h : K.IntsW .u64 w v l) (hm : l.length ≤ 1000000) : ∃ L : List Nat, l = L.map (fun n : Nat => (n : Int)) ∧ Words w v L := by
  obtain ⟨p, cap, hv, h1, h2, h3, h4⟩ := h
  obtain ⟨L, rfl, hL⟩ := list_nat9 l h3
  refine ⟨L, rfl, p, cap, by simpa using hv, by simpa using h1.1, by simpa using hm, hL, fun h0 => ?_⟩
  obtain ⟨b, off, hp, hc⟩ := h4 (by simpa using h0)
  refine ⟨b, off, hp, fun j hj => ?_⟩
  rw [hc j (by simpa using hj)]
  simp [List.getD, hj]

set_option maxHeartbeats 2000000 in
theorem applies9_walk (a W : Int) (v : Value) (l : List Int) (w : World) (hT : OpTab w) (ha : (Lit.int .u8 a).wf = true) (_hW : (Lit.int .i64 W).wf = true) (hv : K.IntsW .u64 w v l) :
    Calls Tryd.prog 3 #[.int .u8 a, .int .i64 W, v] w fun e w' => e = .returned (.bool true) ∧ Below w.heap.size w w' := by
  obtain ⟨k, rfl, hk⟩ := u8_nat9 ha
  clear ha
  have HK := Lib.hid (fun w1 (hb : Below w.heap.size w w1) => known9_any w1 (hT.below hb))
  by_cases hg : l.length ≤ 10
  · obtain ⟨L, rfl, hw⟩ := words_row hv (by omega)
    have hlen : L.length ≤ 10 := by simpa using hg
    have C1 := Lib.hid (copyN_any v L w hw)
    have C2 := Lib.hid (fun v' w1 (hb : Below w.heap.size w w1) (hv' : Words w1 v' L) => apply_any k W L v' w1 hk (hT.below hb) hv')
    have C3 := Lib.hid (fun w1 (hb : Below w.heap.size w w1) => rapply_any k W L v w1 hk (hw.below hb))
    obtain ⟨p, cap, rfl, _, _, _, _⟩ := hw
    have hgt : ¬ (L.length : Int) > 10 := by omega
    clear hv hT hg hlen
    generalize apV k W L = q1 at *
    generalize apE k W L = q2 at *
    go_enter Tryd.func3, Tryd.ntmps3
    go_wp2_with (go_at_call 14; refine (C1.out).mono ?_; rintro e w1 ⟨v', rfl, hv', hb1⟩; refine Hid.out ?_)
    have C4 := Lib.hid (C2.out v' w1 hb1 hv')
    have HB1 := Lib.hid hb1
    clear hb1 hv' C1 C2
    refine Lib.hid ?_
    go_wp2_with (go_at_call 13; refine (C4.out).mono ?_; rintro e w2 ⟨rfl, hb⟩; refine Hid.out ?_)
    have HB2 := Lib.hid (HB1.out.trans (hb.mono HB1.out.size))
    clear hb C4 HB1
    have C5 := Lib.hid (C3.out _ HB2.out)
    have C6 := Lib.hid (HK.out _ HB2.out)
    refine Lib.hid ?_
    go_wp2_with (first | (go_at_call 15; refine (C5.out).mono ?_; rintro e w3 ⟨rfl, rfl⟩) | (go_at_call 12; refine (C6.out).mono ?_; rintro e w3 ⟨rfl, hb⟩))
    go_ret
    exact ⟨rfl, HB2.out.trans (hb.mono HB2.out.size)⟩
  · obtain ⟨p, cap, rfl, _, hm, _, _⟩ := hv
    have hgt : (l.length : Int) > 10 := by omega
    have C6 := Lib.hid (HK.out _ (Below.refl _ _))
    go_enter Tryd.func3, Tryd.ntmps3
    go_wp2_with (go_at_call 12; refine (C6.out).mono ?_; rintro e w3 ⟨rfl, hb⟩)
    go_ret
    exact ⟨rfl, hb⟩

set_option maxHeartbeats 2000000 in
theorem trims9_walk (W a : Int) (w : World) (hT : OpTab w) (_hW : (Lit.int .i64 W).wf = true) (ha : (Lit.int .u64 a).wf = true) :
    Calls Tryd.prog 5 #[.int .i64 W, .int .u64 a] w fun e w' => e = .returned (.bool true) ∧ Below w.heap.size w w' := by
  obtain ⟨v, rfl, hv⟩ := u64_nat9 ha
  have C1 := Lib.hid (trimW_any W v hv w)
  have C2 := Lib.hid (rtrimW_any W v hv w)
  have C3 := Lib.hid (signedW_any W v w)
  have C4 := Lib.hid (rsignedW_any W v hv w)
  have C5 := Lib.hid (checkW_any W w)
  have C6 := Lib.hid (rcheckW_any W w)
  have C7 := Lib.hid (known9_any w hT)
  clear ha hT
  generalize tmV W v = q1 at *
  generalize sgV W v = q2 at *
  generalize chkE W = q3 at *
  go_enter Tryd.func5, Tryd.ntmps5
  go_wp2_with (first
    | (go_at_call 16; refine (C1.out).mono ?_; rintro e w1 ⟨rfl, rfl⟩)
    | (go_at_call 17; refine (C2.out).mono ?_; rintro e w1 ⟨rfl, rfl⟩)
    | (go_at_call 18; refine (C3.out).mono ?_; rintro e w1 ⟨rfl, rfl⟩)
    | (go_at_call 19; refine (C4.out).mono ?_; rintro e w1 ⟨rfl, rfl⟩)
    | (go_at_call 20; refine (C5.out).mono ?_; rintro e w1 ⟨rfl, rfl⟩)
    | (go_at_call 21; refine (C6.out).mono ?_; rintro e w1 ⟨rfl, rfl⟩)
    | (go_at_call 12; refine (C7.out).mono ?_; rintro e w1 ⟨rfl, hb⟩))
  go_ret
  exact ⟨rfl, hb⟩
end W9
end Go.Proofs.YtmplmpiljjilnaaDoor
