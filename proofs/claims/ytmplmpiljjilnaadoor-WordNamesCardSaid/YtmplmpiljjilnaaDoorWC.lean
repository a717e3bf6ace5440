/- WordNames: the walk. -/
import Derived.Test.YtmplmpiljjilnaaDoorWA
namespace Go.Proofs.YtmplmpiljjilnaaDoor
open Go.RowKit
open L
namespace W9
set_option maxRecDepth 100000

def nOps : List Nat := [2, 3, 5, 6, 7, 7, 8, 8, 12, 12, 13, 14, 14, 17, 19, 18, 20, 21, 21, 21]
def nArgs : List (List Nat) := [[2], [3], [2, 5], [3, 5], [7, 2], [7, 0], [7, 2], [5, 0], [3, 1], [3, 3], [6, 1], [6, 5], [3, 7], [3, 4], [3, 4], [4, 4], [4, 3], [4, 1, 2], [0, 1, 2], [8, 1, 2]]
def nWant : List Nat := [5, 5, 5, 7, 3, 7, 1, 5, 6, 0, 3, 7, 0, 1, 0, 1, 1, 1, 2, 2]
def allocs (w : World) (L : List Obj) : World := L.foldl World.alloc w
theorem allocs_size (L : List Obj) : ∀ w : World, (allocs w L).heap.size = w.heap.size + L.length := by
  induction L with
  | nil => intro w; rfl
  | cons o L ih => intro w; show (allocs (w.alloc o) L).heap.size = _; rw [ih]; simp; omega
theorem allocs_below (L : List Obj) : ∀ w : World, Below w.heap.size w (allocs w L) := by
  induction L with
  | nil => intro w; exact Below.refl _ _
  | cons o L ih => intro w; exact (below_box w o).trans ((ih _).mono (by simp))
theorem allocs_at (L : List Obj) : ∀ (w : World) (j : Nat), j < L.length → (allocs w L).heap[w.heap.size + j]? = L[j]? := by
  induction L with
  | nil => intro w j hj; simp at hj
  | cons o L ih =>
    intro w j hj
    show (allocs (w.alloc o) L).heap[w.heap.size + j]? = _
    cases j with
    | zero =>
      rw [(allocs_below L (w.alloc o)).block _ (by simp), Nat.add_zero]
      exact heap_alloc_last w o
    | succ j =>
      have := ih (w.alloc o) j (by simpa using hj)
      simp only [show (w.alloc o).heap.size = w.heap.size + 1 by simp] at this
      rw [show w.heap.size + (j + 1) = w.heap.size + 1 + j by omega, this]; rfl
def u8v (n : Nat) : Value := .int .u8 (n : Int)
/-- The blocks of the law's literals, the first of them at B. -/
def nObjs (B : Nat) : List Obj :=
  .cells (nOps.map u8v).toArray 5 :: (nArgs.map fun r => .cells (r.map uv).toArray 24) ++
    [.cells ((List.range 20).map fun i => (.slice (some ⟨B + (1 + i), 0, none⟩) (nArgs.getD i []).length (nArgs.getD i []).length : Value)).toArray 22, .cells (nWant.map uv).toArray 24]
theorem nObjs_row (B i : Nat) (hi : i < 20) : (nObjs B)[1 + i]? = some (.cells ((nArgs.getD i []).map uv).toArray 24) := by
  have hl : i < nArgs.length := hi
  unfold nObjs
  rw [Nat.add_comm, List.cons_append, List.getElem?_cons_succ, List.getElem?_append_left (by simpa using hl)]
  simp [List.getD, hl]
/-- What the literals give at the index i. -/
theorem nRow (w : World) (i : Nat) (hi : i < 20) :
    let W := allocs w (nObjs w.heap.size)
    W.cell? ⟨w.heap.size, i, none⟩ = some (u8v (nOps.getD i 0)) ∧ W.cell? ⟨w.heap.size + 22, i, none⟩ = some (uv (nWant.getD i 0)) ∧
    ∃ v, W.cell? ⟨w.heap.size + 21, i, none⟩ = some v ∧ Words W v (nArgs.getD i []) := by
  intro W
  have h0 : W.heap[w.heap.size + 0]? = some (.cells (nOps.map u8v).toArray 5) := (allocs_at _ w 0 (by simp [nObjs])).trans rfl
  have h21 : W.heap[w.heap.size + 21]? = some (.cells ((List.range 20).map fun i => (.slice (some ⟨w.heap.size + (1 + i), 0, none⟩) (nArgs.getD i []).length (nArgs.getD i []).length : Value)).toArray 22) := (allocs_at _ w 21 (by simp [nObjs, nArgs])).trans rfl
  have h22 : W.heap[w.heap.size + 22]? = some (.cells (nWant.map uv).toArray 24) := (allocs_at _ w 22 (by simp [nObjs, nArgs])).trans rfl
  have hr : W.heap[w.heap.size + (1 + i)]? = some (.cells ((nArgs.getD i []).map uv).toArray 24) := (allocs_at _ w (1 + i) (by simp [nObjs, nArgs]; omega)).trans (nObjs_row _ i hi)
  refine ⟨?_, ?_, _, cell_of_row W _ i _ _ (0, 0) h21 |>.trans (by simp [hi]; rfl), ?_⟩
  · refine (cell_of_row W _ i _ _ (0, 0) h0).trans ?_
    have hl : i < nOps.length := hi
    simp [List.getD, hl]
  · refine (cell_of_row W _ i _ _ (0, 0) h22).trans ?_
    have hl : i < nWant.length := hi
    simp [List.getD, hl]
  · have hs : ∀ i : Fin 20, (nArgs.getD i.val []).length ≤ 3 ∧ ∀ x ∈ nArgs.getD i.val [], x < 18446744073709551616 := by decide +kernel
    obtain ⟨s1, s2⟩ := hs ⟨i, hi⟩
    refine ⟨_, _, rfl, Nat.le_refl _, by simp only at s1; omega, s2, fun _ => ⟨_, 0, rfl, fun j hj => ?_⟩⟩
    rw [cell_of_row W _ _ _ _ (0, 0) hr]
    generalize nArgs.getD i [] = r at *
    simp [List.getD, hj]
theorem nAll (i : Nat) (hi : i < 20) : isB (nWant.getD i 0) (nOps.getD i 0) 3 (nArgs.getD i []) = true ∧ nOps.getD i 0 < 256 := by
  have : ∀ i : Fin 20, isB (nWant.getD i.val 0) (nOps.getD i.val 0) 3 (nArgs.getD i.val []) = true ∧ nOps.getD i.val 0 < 256 := by decide +kernel
  exact this ⟨i, hi⟩


structure SN (w0 w : World) : Prop where
  below : Below w0.heap.size w0 w
  tab : OpTab w
theorem SN.go {w0 w : World} (h : SN w0 w) {f : FuncId} {xs : Array Value} {v : Value} (c : Calls Tryd.prog f xs w fun e w' => e = .returned v ∧ Below w.heap.size w w') : Calls Tryd.prog f xs w fun e w' => e = .returned v ∧ SN w0 w' :=
  c.mono fun _ _ ⟨h1, h2⟩ => ⟨h1, h.1.trans (h2.mono h.1.size), h.2.below h2⟩
theorem SN.box {w0 w : World} (h : SN w0 w) (o : Obj) : SN w0 (w.alloc o) := ⟨h.1.alloc h.1.size _, h.2.below (below_box _ _)⟩
theorem isT {q : Bool} (hq : q = true) {f : FuncId} {xs : Array Value} {w : World} (c : Calls Tryd.prog f xs w fun e w' => e = .returned (.bool q) ∧ Below w.heap.size w w') : Calls Tryd.prog f xs w fun e w' => e = .returned (.bool true) ∧ Below w.heap.size w w' := by subst hq; exact c
set_option maxHeartbeats 8000000 in
theorem names9_walk (w : World) (hT : OpTab w) :
    Calls Tryd.prog 6 #[] w fun e w' => e = .returned (.bool true) ∧ Below w.heap.size w w' := by
  have hb6 := allocs_below (nObjs w.heap.size) w
  have hR := nRow w
  have hs6 := allocs_size (nObjs w.heap.size) w
  obtain ⟨b21, h21⟩ : ∃ X, X = w.heap.size + 21 := ⟨_, rfl⟩
  obtain ⟨b22, h22⟩ : ∃ X, X = w.heap.size + 22 := ⟨_, rfl⟩
  rw [← h21, ← h22] at hR
  obtain ⟨w6, hw6⟩ : ∃ X, X = allocs w (nObjs w.heap.size) := ⟨_, rfl⟩
  rw [← hw6] at hb6
  simp only [← hw6] at hR
  have hT6 := hT.below hb6
  have HR := Lib.hid hR
  have HB6 := Lib.hid hb6
  have HT6 := Lib.hid hT6
  clear hR hb6 hT hT6 hs6
  have HW := Lib.hid hw6
  clear hw6
  have H21 := Lib.hid h21
  have H22 := Lib.hid h22
  clear h21 h22
  go_enter Tryd.func6, Tryd.ntmps6
  go_wp2
  conv =>
    arg 5
    change allocs w (nObjs w.heap.size)
  rw [← HW.out, show w.heap.size + 1 + 1 + 1 + 1 + 1 + 1 + 1 + 1 + 1 + 1 + 1 + 1 + 1 + 1 + 1 + 1 + 1 + 1 + 1 + 1 + 1 + 1 = b22 from H22.out.symm, show w.heap.size + 1 + 1 + 1 + 1 + 1 + 1 + 1 + 1 + 1 + 1 + 1 + 1 + 1 + 1 + 1 + 1 + 1 + 1 + 1 + 1 + 1 = b21 from H21.out.symm]
  go_loopw [4] (fun iv wr => ∃ i : Nat, iv = .int .i64 (i : Int) ∧ i ≤ 20 ∧ Below w6.heap.size w6 wr) (fun iv _ => 100 - (intOf iv).toNat)
  case atStart => exact ⟨0, rfl, by omega, Below.refl _ _⟩
  case round =>
    obtain ⟨i, rfl, hi, hb⟩ := hrel
    by_cases hlt : i < 20
    · have g1 : (i : Int) < 20 := by omega
      obtain ⟨r1, r2, v, r3, r4⟩ := HR.out i hlt
      obtain ⟨n1, n2⟩ := nAll i hlt
      have d1 : ∀ x : Later wr.heap.size wr, x.W.cell? ⟨w.heap.size, i, none⟩ = some (u8v (nOps.getD i 0)) := fun x => ((hb.trans (x.ok.mono hb.size)).cell (p := ⟨w.heap.size, i, none⟩) (World.block_lt_of_cell? _ _ r1)).trans r1
      have d2 : ∀ x : Later wr.heap.size wr, x.W.cell? ⟨b22, i, none⟩ = some (uv (nWant.getD i 0)) := fun x => ((hb.trans (x.ok.mono hb.size)).cell (p := ⟨b22, i, none⟩) (World.block_lt_of_cell? _ _ r2)).trans r2
      have d3 : ∀ x : Later wr.heap.size wr, x.W.cell? ⟨b21, i, none⟩ = some v := fun x => ((hb.trans (x.ok.mono hb.size)).cell (p := ⟨b21, i, none⟩) (World.block_lt_of_cell? _ _ r3)).trans r3
      have C := fun x : Later wr.heap.size wr => is_any (nWant.getD i 0) (nOps.getD i 0) 3 (nArgs.getD i []) v x.W n2 ((HT6.out.below hb).below x.ok) ((r4.below hb).below x.ok)
      rw [n1] at C
      have HC := Lib.hid C
      have HB := Lib.hid hb
      clear C r1 r2 r3 r4 n1 n2 hb
      unfold u8v at *
      generalize nOps.getD i 0 = o at *
      generalize nWant.getD i 0 = n at *
      go_wp2
      refine wp_region_later (B := wr.heap.size) (w0 := wr) (by kernel_rfl) (by kernel_rfl) (Below.refl _ _) ?_
      repeat (go_big_quiet_step (first
        | (go_at_call 22; with_reducible exact later_mono _ (Nat.le_refl _) (HC.out _))))
      refine wpQuiet_nil ?_
      rintro _ ⟨x, rfl⟩
      have hbx := HB.out.trans (x.ok.mono HB.out.size)
      go_wp2
      go_roundw
      case rel => exact ⟨i + 1, by simp, by omega, hbx⟩
      case measure => simp [intOf]; omega
    · obtain rfl : i = 20 := by omega
      have hT7 := HT6.out.below hb
      have hb7 := HB6.out.trans (hb.mono HB6.out.size)
      clear hlt hi
      have hs : SN w wr := ⟨hb7, hT7⟩
      clear hT7 hb7 hb HR HB6 HT6
      have K1 : ∀ w1 : World, Calls Tryd.prog 16 #[.int .i64 4, .int .u64 31] w1 fun e w' => e = .returned (.tuple #[.int .u64 15, .int .i64 0]) ∧ w1 = w' := fun w1 => trimW_any 4 31 (by decide) w1
      have K2 : ∀ w1 : World, Calls Tryd.prog 16 #[.int .i64 65, .int .u64 0] w1 fun e w' => e = .returned (.tuple #[.int .u64 0, .int .i64 3]) ∧ w1 = w' := fun w1 => trimW_any 65 0 (by decide) w1
      have K3 : ∀ w1 : World, Calls Tryd.prog 18 #[.int .i64 4, .int .u64 24] w1 fun e w' => e = .returned (.tuple #[.int .i64 (-8), .int .i64 0]) ∧ w1 = w' := fun w1 => signedW_any 4 24 w1
      have K4 : ∀ w1 : World, Calls Tryd.prog 18 #[.int .i64 64, .int .u64 18446744073709551615] w1 fun e w' => e = .returned (.tuple #[.int .i64 (-1), .int .i64 0]) ∧ w1 = w' := fun w1 => signedW_any 64 18446744073709551615 w1
      have K5 : ∀ w1 : World, Calls Tryd.prog 18 #[.int .i64 63, .int .u64 4611686018427387904] w1 fun e w' => e = .returned (.tuple #[.int .i64 (-4611686018427387904), .int .i64 0]) ∧ w1 = w' := fun w1 => signedW_any 63 4611686018427387904 w1
      have K6 : ∀ w1 : World, Calls Tryd.prog 20 #[.int .i64 0] w1 fun e w' => e = .returned (.int .i64 3) ∧ w1 = w' := fun w1 => checkW_any 0 w1
      have K7 : ∀ w1 : World, Calls Tryd.prog 20 #[.int .i64 64] w1 fun e w' => e = .returned (.int .i64 0) ∧ w1 = w' := fun w1 => checkW_any 64 w1
      have K8 : ∀ w1 : World, SN w w1 → Calls Tryd.prog 13 #[.int .u8 1, .int .i64 3, .slice none 0 0] w1 fun e w' => e = .returned (.tuple #[.int .u64 0, .int .i64 3]) ∧ SN w w' := fun w1 h => h.go (apply_any 1 3 [] _ w1 (by decide) h.tab (words_nil w1 0))
      have K9 : ∀ w1 : World, SN w w1 → Calls Tryd.prog 13 #[.int .u8 22, .int .i64 3, .slice none 0 0] w1 fun e w' => e = .returned (.tuple #[.int .u64 0, .int .i64 3]) ∧ SN w w' := fun w1 h => h.go (apply_any 22 3 [] _ w1 (by decide) h.tab (words_nil w1 0))
      have K10 : ∀ w1 : World, SN w w1 → Calls Tryd.prog 13 #[.int .u8 4, .int .i64 3, .slice (some ⟨w1.heap.size, 0, none⟩) 1 1] (w1.alloc (.cells #[.int .u64 1] 24)) fun e w' => e = .returned (.tuple #[.int .u64 0, .int .i64 2]) ∧ SN w w' := fun w1 h => (h.box _).go (apply_any 4 3 [1] _ _ (by decide) (h.box _).tab (words1 w1 24 (by decide)))
      have K11 : ∀ w1 : World, SN w w1 → Calls Tryd.prog 13 #[.int .u8 4, .int .i64 0, .slice (some ⟨w1.heap.size, 0, none⟩) 1 1] (w1.alloc (.cells #[.int .u64 1] 24)) fun e w' => e = .returned (.tuple #[.int .u64 0, .int .i64 3]) ∧ SN w w' := fun w1 h => (h.box _).go (apply_any 4 0 [1] _ _ (by decide) (h.box _).tab (words1 w1 24 (by decide)))
      have K12 : ∀ w1 : World, SN w w1 → Calls Tryd.prog 22 #[.int .u64 0, .int .u8 6, .int .i64 64, .slice (some ⟨w1.heap.size, 0, none⟩) 2 2] (w1.alloc (.cells #[.int .u64 4294967296, .int .u64 4294967296] 24)) fun e w' => e = .returned (.bool true) ∧ SN w w' := fun w1 h => (h.box _).go (isT (by decide +kernel) (is_any 0 6 64 [4294967296, 4294967296] _ _ (by decide) (h.box _).tab (words2 w1 24 (by decide) (by decide))))
      have K13 : ∀ w1 : World, SN w w1 → Calls Tryd.prog 22 #[.int .u64 1, .int .u8 14, .int .i64 1, .slice (some ⟨w1.heap.size, 0, none⟩) 2 2] (w1.alloc (.cells #[.int .u64 1, .int .u64 0] 24)) fun e w' => e = .returned (.bool true) ∧ SN w w' := fun w1 h => (h.box _).go (isT (by decide +kernel) (is_any 1 14 1 [1, 0] _ _ (by decide) (h.box _).tab (words2 w1 24 (by decide) (by decide))))
      have K14 : ∀ w1 : World, SN w w1 → Calls Tryd.prog 22 #[.int .u64 1, .int .u8 19, .int .i64 1, .slice (some ⟨w1.heap.size, 0, none⟩) 2 2] (w1.alloc (.cells #[.int .u64 1, .int .u64 0] 24)) fun e w' => e = .returned (.bool true) ∧ SN w w' := fun w1 h => (h.box _).go (isT (by decide +kernel) (is_any 1 19 1 [1, 0] _ _ (by decide) (h.box _).tab (words2 w1 24 (by decide) (by decide))))
      have K15 : ∀ w1 : World, SN w w1 → Calls Tryd.prog 12 #[] w1 fun e w' => e = .returned (.bool true) ∧ SN w w' := fun w1 h => h.go (known9_any w1 h.tab)
      have HK1 := Lib.hid K1
      have HK2 := Lib.hid K2
      have HK3 := Lib.hid K3
      have HK4 := Lib.hid K4
      have HK5 := Lib.hid K5
      have HK6 := Lib.hid K6
      have HK7 := Lib.hid K7
      have HK8 := Lib.hid K8
      have HK9 := Lib.hid K9
      have HK10 := Lib.hid K10
      have HK11 := Lib.hid K11
      have HK12 := Lib.hid K12
      have HK13 := Lib.hid K13
      have HK14 := Lib.hid K14
      have HK15 := Lib.hid K15
      clear K1 K2 K3 K4 K5 K6 K7 K8 K9 K10 K11 K12 K13 K14 K15
      go_wp2_with (first
        | (go_at_call 16; with_reducible refine (HK1.out _).mono ?_; rintro e w2 ⟨rfl, rfl⟩)
        | (go_at_call 16; with_reducible refine (HK2.out _).mono ?_; rintro e w2 ⟨rfl, rfl⟩)
        | (go_at_call 18; with_reducible refine (HK3.out _).mono ?_; rintro e w2 ⟨rfl, rfl⟩)
        | (go_at_call 18; with_reducible refine (HK4.out _).mono ?_; rintro e w2 ⟨rfl, rfl⟩)
        | (go_at_call 18; with_reducible refine (HK5.out _).mono ?_; rintro e w2 ⟨rfl, rfl⟩)
        | (go_at_call 20; with_reducible refine (HK6.out _).mono ?_; rintro e w2 ⟨rfl, rfl⟩)
        | (go_at_call 20; with_reducible refine (HK7.out _).mono ?_; rintro e w2 ⟨rfl, rfl⟩)
        | (go_at_call 13; with_reducible refine (HK8.out _ (by assumption)).mono ?_; rintro e w2 ⟨rfl, hs⟩)
        | (go_at_call 13; with_reducible refine (HK9.out _ (by assumption)).mono ?_; rintro e w2 ⟨rfl, hs⟩)
        | (go_at_call 13; with_reducible refine (HK10.out _ (by assumption)).mono ?_; rintro e w2 ⟨rfl, hs⟩)
        | (go_at_call 13; with_reducible refine (HK11.out _ (by assumption)).mono ?_; rintro e w2 ⟨rfl, hs⟩)
        | (go_at_call 22; with_reducible refine (HK12.out _ (by assumption)).mono ?_; rintro e w2 ⟨rfl, hs⟩)
        | (go_at_call 22; with_reducible refine (HK13.out _ (by assumption)).mono ?_; rintro e w2 ⟨rfl, hs⟩)
        | (go_at_call 22; with_reducible refine (HK14.out _ (by assumption)).mono ?_; rintro e w2 ⟨rfl, hs⟩)
        | (go_at_call 12; with_reducible refine (HK15.out _ (by assumption)).mono ?_; rintro e w2 ⟨rfl, hs⟩))
      go_ret
      exact ⟨rfl, hs.below⟩
end W9
end Go.Proofs.YtmplmpiljjilnaaDoor
