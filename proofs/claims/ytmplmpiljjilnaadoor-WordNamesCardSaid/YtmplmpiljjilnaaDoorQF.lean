/- word.Apply. -/
import Derived.Test.YtmplmpiljjilnaaDoorQE
namespace Go.Proofs.YtmplmpiljjilnaaDoor
open Go.RowKit
open L
namespace W9
set_option maxRecDepth 100000

/-- The place j of the array of words when i are set. -/
def gw (W : Nat) (l : List Nat) (i j : Nat) : Nat := if j < i then args W l j else 0
theorem gw_all {W : Nat} {l : List Nat} (j : Nat) : gw W l l.length j = args W l j := by
  unfold gw; split
  · rfl
  · unfold args; rw [List.getD_eq_getElem?_getD, List.getElem?_eq_none (by omega)]; simp
theorem gw_step {W : Nat} {l : List Nat} (i j : Nat) : gw W l (i + 1) j = if j = i then args W l i else gw W l i j := by
  unfold gw
  by_cases h : j = i
  · subst h; simp
  · rw [if_neg h]
    by_cases h2 : j < i
    · rw [if_pos h2, if_pos (by omega)]
    · rw [if_neg h2, if_neg (by omega)]
theorem args_lt (W : Nat) (l : List Nat) (j : Nat) : args W l j < 2 ^ W := Nat.mod_lt _ (pow_pos W)
theorem ar_range (o : Nat) (o1 : 2 ≤ o) (o2 : o ≤ 21) : arA o = 1 ∨ arA o = 2 ∨ arA o = 3 := by
  have : ∀ o : Fin 22, 2 ≤ o.val → arA o.val = 1 ∨ arA o.val = 2 ∨ arA o.val = 3 := by decide +kernel
  exact this ⟨o, by omega⟩ o1

theorem fld_any (F : Nat) (w : World) :
    (Instr.field 61 (.agg #[.func (.func F) #[] #[]]) 0).run Tryd.prog w = .ok (.func (.func F) #[] #[]) w := by kernel_rfl
theorem cf_any (o : Nat) (o1 : 2 ≤ o) (o2 : o ≤ 21) (v : Value) (w : World) : (callFunc (fnL.getD o 0) #[v]).run Tryd.prog w = .ok (.enter (fnL.getD o 0) #[v]) w := by
  refine cases20 (p := fun o => (callFunc (fnL.getD o 0) #[v]).run Tryd.prog w = .ok (.enter (fnL.getD o 0) #[v]) w) ?_ ?_ ?_ ?_ ?_ ?_ ?_ ?_ ?_ ?_ ?_ ?_ ?_ ?_ ?_ ?_ ?_ ?_ ?_ ?_ o o1 o2 <;> kernel_rfl
set_option maxHeartbeats 4000000 in
theorem apply_ok (o : Nat) (W : Nat) (l : List Nat) (v : Value) (w : World) (o1 : 2 ≤ o) (o2 : o ≤ 21) (hW1 : 1 ≤ W) (hW2 : W ≤ 64) (hT : OpTab w) (hv : Words w v l) (hn : l.length = 1 ∨ l.length = 2 ∨ l.length = 3) (htk : tkE o l.length = 0) :
    Calls Tryd.prog 13 #[.int .u8 (o : Int), .int .i64 (W : Int), v] w fun e w' => e = .returned (.tuple #[.int .u64 ((ap W W o (args W l 0) (args W l 1) (args W l 2) : Nat) : Int), .int .i64 0]) ∧ Below w.heap.size w w' := by
  obtain ⟨p, cap, rfl, hl, hm, hx, hc⟩ := hv
  obtain ⟨b, off, rfl, e0⟩ := hc (by omega)
  clear hc
  have e1 : ∀ j, j < l.length → b < w.heap.size ∧ ∀ W : World, Below w.heap.size w W → W.cell? ⟨b, off + j, none⟩ = some (.int .u64 ((l.getD j 0 : Nat) : Int)) :=
    fun j hj => ⟨World.block_lt_of_cell? _ _ (e0 j hj), fun W hW => (hW.cell (p := ⟨b, off + j, none⟩) (World.block_lt_of_cell? _ _ (e0 j hj))).trans (e0 j hj)⟩
  have E1 := Lib.hid e1
  clear e0 e1
  have D1 := checkW_any (W : Int) w
  rw [show chkE (W : Int) = 0 from if_neg (by omega)] at D1
  have C1 := Lib.hid D1
  have D2 := takes_any o l.length (by omega) w hT
  rw [htk] at D2
  have C2 := Lib.hid D2
  have C3 := Lib.hid (fun v (hv : v < 18446744073709551616) w => trimmed_any W v hW2 hv w)
  have hlow := ap_low (M := 64) (o := o) hW1 hW2 (args_lt W l 0) (args_lt W l 1) (args_lt W l 2)
  have hlt := ap_lt (W := W) (M := 64) (o := o) (by decide) (lt64 hW2 (args_lt W l 0)) (lt64 hW2 (args_lt W l 1)) (lt64 hW2 (args_lt W l 2))
  have HX := Lib.hid hx
  have HN := Lib.hid hn
  have HG := Lib.hid (fun j => gw_all (W := W) (l := l) j)
  have C4 := Lib.hid (fun w => op_any o W _ _ (args W l 2) hW1 hW2 (args_lt W l 0) (args_lt W l 1) o1 o2 w)
  have hI := idx_any o o1 o2
  have hF := fld_any (fnL.getD o 0)
  have hcf := cf_any o o1 o2
  have D5 := trimmed_any W (ap W 64 o (args W l 0) (args W l 1) (args W l 2)) hW2 hlt
  rw [hlow] at D5
  have C5 := Lib.hid D5
  have C6 := Lib.hid table_any
  clear hlow hlt hx hn htk hT D1 D2 D5
  generalize fnL.getD o 0 = F at *
  generalize tabL.toArray = T at *
  generalize ap W 64 o (args W l 0) (args W l 1) (args W l 2) = r1 at *
  generalize ap W W o (args W l 0) (args W l 1) (args W l 2) = r2 at *
  go_enter Tryd.func13, Tryd.ntmps13
  go_wp2_with (first | (go_at_call 20; refine (C1.out).mono ?_; rintro e w' ⟨rfl, rfl⟩) | (go_at_call 28; refine (C2.out).mono ?_; rintro e w' ⟨rfl, rfl⟩))
  go_loopw [28] (fun iv wr => ∃ i : Nat, iv = .int .i64 (i : Int) ∧ i ≤ l.length ∧ wr = w.alloc (.cells #[.int .u64 ((gw W l i 0 : Nat) : Int), .int .u64 ((gw W l i 1 : Nat) : Int), .int .u64 ((gw W l i 2 : Nat) : Int)] 55)) (fun iv _ => l.length - (intOf iv).toNat)
  case atStart => exact ⟨0, rfl, by omega, rfl⟩
  case round =>
    obtain ⟨i, rfl, hi, rfl⟩ := hrel
    by_cases hlt : i < l.length
    · have h3 : i = 0 ∨ i = 1 ∨ i = 2 := by have := HN.out; omega
      have hcl := (E1.out i hlt).2 _ (below_box w (.cells #[.int .u64 ((gw W l i 0 : Nat) : Int), .int .u64 ((gw W l i 1 : Nat) : Int), .int .u64 ((gw W l i 2 : Nat) : Int)] 55))
      have C7 := Lib.hid (C3.out (l.getD i 0) (getD_lt HX.out i) (w.alloc (.cells #[.int .u64 ((gw W l i 0 : Nat) : Int), .int .u64 ((gw W l i 1 : Nat) : Int), .int .u64 ((gw W l i 2 : Nat) : Int)] 55)))
      have G0 := Lib.hid (fun j => gw_step (W := W) (l := l) i j)
      have G1 : args W l i = l.getD i 0 % 2 ^ W := rfl
      have G1 := Lib.hid G1
      generalize l.getD i 0 = x at *
      have hm0 := args_lt W l i
      generalize hq : gw W l i 0 = g0 at *
      generalize hq1 : gw W l i 1 = g1 at *
      generalize hq2 : gw W l i 2 = g2 at *
      generalize hq3 : x % 2 ^ W = y at *
      have Q0 := Lib.hid hq
      have Q1 := Lib.hid hq1
      have Q2 := Lib.hid hq2
      clear hq hq1 hq2 hq3 hm0
      rcases h3 with rfl | rfl | rfl
      all_goals
        try simp only [Nat.add_zero] at hcl
        go_wp2_with (go_at_call 29; refine (C7.out).mono ?_; rintro e w' ⟨rfl, rfl⟩)
        have e0 := G0.out 0
        have e1 := G0.out 1
        have e2 := G0.out 2
        simp at e0 e1 e2
        try rw [Q0.out] at e0
        try rw [Q1.out] at e1
        try rw [Q2.out] at e2
        try rw [G1.out] at e0
        try rw [G1.out] at e1
        try rw [G1.out] at e2
      · refine ⟨⟨1, rfl, by omega, ?_⟩, by simp [intOf]; omega⟩
        rw [e0, e1, e2]
      · refine ⟨⟨2, rfl, by omega, ?_⟩, by simp [intOf]; omega⟩
        rw [e0, e1, e2]
      · refine ⟨⟨3, rfl, by omega, ?_⟩, by simp [intOf]; omega⟩
        rw [e0, e1, e2]
    · obtain rfl : i = l.length := by omega
      rw [HG.out 0, HG.out 1, HG.out 2]

      generalize args W l 0 = a0 at *
      generalize args W l 1 = a1 at *
      generalize args W l 2 = a2 at *
      clear HG HX E1
      obtain ⟨W2, hW2⟩ : ∃ X, X = (w.alloc (.cells #[.int .u64 ((a0 : Nat) : Int), .int .u64 ((a1 : Nat) : Int), .int .u64 ((a2 : Nat) : Int)] 55)).alloc (.cells #[.int .i64 (W : Int), .int .u64 ((a0 : Nat) : Int), .int .u64 ((a1 : Nat) : Int), .int .u64 ((a2 : Nat) : Int)] 58) := ⟨_, rfl⟩
      have hb2 : Below w.heap.size w W2 := by rw [hW2]; exact ((Below.refl _ _).alloc (Nat.le_refl _) _).alloc (by simp) _
      have hc0 : W2.cell? ⟨w.heap.size + 1, 0, none⟩ = some (.int .i64 (W : Int)) := by rw [hW2]; simp
      have hc1 : W2.cell? ⟨w.heap.size + 1, 1, none⟩ = some (.int .u64 (a0 : Int)) := by rw [hW2]; simp
      have hc2 : W2.cell? ⟨w.heap.size + 1, 2, none⟩ = some (.int .u64 (a1 : Int)) := by rw [hW2]; simp
      have hc3 : W2.cell? ⟨w.heap.size + 1, 3, none⟩ = some (.int .u64 (a2 : Int)) := by rw [hW2]; simp
      have k : ∀ {j : Nat} {v : Value}, W2.cell? ⟨w.heap.size + 1, j, none⟩ = some v → ∀ x : Later W2.heap.size W2, x.W.cell? ⟨w.heap.size + 1, j, none⟩ = some v :=
        fun h x => (x.ok.cell (World.block_lt_of_cell? _ _ h)).trans h
      have k0 := k hc0
      have k1 := k hc1
      have k2 := k hc2
      have k3 := k hc3
      have HB2 := Lib.hid hb2
      have HW2 := Lib.hid hW2
      clear hc0 hc1 hc2 hc3 k hb2 hW2
      go_wp2
      rw [← HW2.out]
      refine wp_region_later (B := W2.heap.size) (w0 := W2) (by kernel_rfl) (by kernel_rfl) (Below.refl _ _) ?_
      repeat (go_big_quiet_step (first
        | (go_at_call 30; with_reducible exact later_mono _ (Nat.le_refl _) (C6.out _))
        | (go_at_call 29; with_reducible exact later_same _ (C5.out _))
        | (with_reducible exact later_mono _ (Nat.le_refl _) (C4.out _))))
      refine wpQuiet_nil ?_
      rintro _ ⟨x, rfl⟩
      have hbx := HB2.out.trans (x.ok.mono HB2.out.size)
      go_wp2
      go_ret2
      exact ⟨rfl, hbx⟩
end W9
end Go.Proofs.YtmplmpiljjilnaaDoor
