/- Contract of start: nothing is known. -/
import Derived.Test.YtoffhaamkhfdeaaCB
import Derived.BigRegion
namespace Go.Proofs.Ytoffhaamkhfdeaa
open Go.RowKit Go.Conc
namespace L
open K

theorem infoCl : (Try.prog.info? 77).map (fun i => (i.zero, i.size, i.bytes)) = some (some (.agg #[.slice none 0 0, .int .i64 0, .int .i64 0, .int .i64 0]), 4, 48) := by kernel_rfl

theorem kc_start (n : Nat) : KC n (fun _ => 0) (madeCells #[.int .i64 0] ((n + 1) * 1)) := by
  refine ⟨by simp [madeCells], fun v hv => ?_⟩
  have hv' : v < n + 1 := by omega
  simp [madeCells, hv', Nat.mod_one]
theorem cc_start (M : Nat) : CC M (fun _ => .slice none 0 0) (fun _ => 0) (fun _ => 0) (fun _ => 0) (madeCells #[.slice none 0 0, .int .i64 0, .int .i64 0, .int .i64 0] (M * 4)) := by
  refine ⟨by simp [madeCells]; omega, fun i hi => ?_⟩
  have e0 : (4 * i) % 4 = 0 := by omega
  have e1 : (4 * i + 1) % 4 = 1 := by omega
  have e2 : (4 * i + 2) % 4 = 2 := by omega
  have e3 : (4 * i + 3) % 4 = 3 := by omega
  have g : ∀ k, k < M * 4 → (madeCells #[.slice none 0 0, .int .i64 0, .int .i64 0, .int .i64 0] (M * 4))[k]? = some (#[Value.slice none 0 0, .int .i64 0, .int .i64 0, .int .i64 0][k % 4]!) := fun k hk => by
    simp [madeCells, hk]
  refine ⟨?_, ?_, ?_, ?_⟩
  · rw [g _ (by omega), e0]; rfl
  · rw [g _ (by omega), e1]; rfl
  · rw [g _ (by omega), e2]; rfl
  · rw [g _ (by omega), e3]; rfl

/-- What it lays, wherever it lies. -/
theorem start_mem {w w' : World} {n M pb kb qb cb mb : Nat} (hn : n ≤ 1048576) (hM : M ≤ 1048576) (hs : w'.heap.size = w.heap.size + 6)
    (h1 : w.heap.size ≤ pb ∧ w.heap.size ≤ kb ∧ w.heap.size ≤ qb ∧ w.heap.size ≤ cb ∧ w.heap.size ≤ mb) (h2 : pb < w.heap.size + 6 ∧ kb < w.heap.size + 6 ∧ qb < w.heap.size + 6 ∧ cb < w.heap.size + 6 ∧ mb < w.heap.size + 6)
    (hd : pb ≠ kb ∧ pb ≠ qb ∧ pb ≠ cb ∧ pb ≠ mb ∧ kb ≠ qb ∧ kb ≠ cb ∧ kb ≠ mb ∧ qb ≠ cb ∧ qb ≠ mb ∧ cb ≠ mb)
    (gp : w'.heap[pb]? = some (.cells (fields ⟨w.heap.size, n, M, pb, kb, qb, cb, mb, w.heap.size + 6⟩) 73))
    (gk : w'.heap[kb]? = some (.cells (madeCells #[.int .i64 0] ((n + 1) * 1)) 3))
    (gq : w'.heap[qb]? = some (.chan n #[] false 0 0 false))
    (gc : w'.heap[cb]? = some (.cells (madeCells #[.slice none 0 0, .int .i64 0, .int .i64 0, .int .i64 0] (M * 4)) 77))
    (gm : w'.heap[mb]? = some (.map #[] 0)) : Mem w' ⟨w.heap.size, n, M, pb, kb, qb, cb, mb, w.heap.size + 6⟩ (fun _ => .slice none 0 0) 0 (fun _ => .slice none 0 0) U.start0 :=
  ⟨⟨h1, h2⟩, hd, Nat.le_of_eq hs.symm, ⟨hn, hM⟩, gp, ⟨_, gk, kc_start n⟩, ⟨0, 0, gq⟩, ⟨_, gc, cc_start M⟩, MapV.made_at gm _, fun _ => World.ownsRow_nil _ _ _ _, fun _ _ _ => .inl rfl⟩

theorem chain6 (w : World) (o0 o1 o2 o3 o4 o5 : Obj) (j : Nat) (o : Obj) (h : [o0, o1, o2, o3, o4, o5][j]? = some o) : ((((((w.alloc o0).alloc o1).alloc o2).alloc o3).alloc o4).alloc o5).heap[w.heap.size + j]? = some o := by
  have a := fun (W : World) (x : Obj) (b : Nat) (hb : b = W.heap.size) => show (W.alloc x).heap[b]? = some x by rw [hb]; exact heap_alloc_new W x
  have b := fun (W : World) (x : Obj) (k : Nat) (y : Obj) (hk : k < W.heap.size) (hy : W.heap[k]? = some y) => show (W.alloc x).heap[k]? = some y from (Deep.blk_alloc_lt W x k hk).trans hy
  match j, h with
  | 0, h => cases h; exact b _ _ _ _ (by simp <;> omega) (b _ _ _ _ (by simp <;> omega) (b _ _ _ _ (by simp <;> omega) (b _ _ _ _ (by simp <;> omega) (b _ _ _ _ (by simp <;> omega) (a _ _ _ (by simp))))))
  | 1, h => cases h; exact b _ _ _ _ (by simp <;> omega) (b _ _ _ _ (by simp <;> omega) (b _ _ _ _ (by simp <;> omega) (b _ _ _ _ (by simp <;> omega) (a _ _ _ (by simp)))))
  | 2, h => cases h; exact b _ _ _ _ (by simp <;> omega) (b _ _ _ _ (by simp <;> omega) (b _ _ _ _ (by simp <;> omega) (a _ _ _ (by simp))))
  | 3, h => cases h; exact b _ _ _ _ (by simp <;> omega) (b _ _ _ _ (by simp <;> omega) (a _ _ _ (by simp)))
  | 4, h => cases h; exact b _ _ _ _ (by simp <;> omega) (a _ _ _ (by simp))
  | 5, h => cases h; exact a _ _ _ (by simp)
  | j + 6, h => simp at h
theorem start_end {w : World} {n M : Nat} (hn : n ≤ 1048576) (hM : M ≤ 1048576) (o0 o1 o2 o3 o4 o5 : Obj) (k q c m : Nat)
    (gk : [o0, o1, o2, o3, o4][k]? = some (.cells (madeCells #[.int .i64 0] ((n + 1) * 1)) 3)) (gq : [o0, o1, o2, o3, o4][q]? = some (.chan n #[] false 0 0 false))
    (gc : [o0, o1, o2, o3, o4][c]? = some (.cells (madeCells #[.slice none 0 0, .int .i64 0, .int .i64 0, .int .i64 0] (M * 4)) 77)) (gm : [o0, o1, o2, o3, o4][m]? = some (.map #[] 0))
    (h2 : (0 < k ∧ k < 5) ∧ (0 < q ∧ q < 5) ∧ (0 < c ∧ c < 5) ∧ (0 < m ∧ m < 5)) (hd : k ≠ q ∧ k ≠ c ∧ k ≠ m ∧ q ≠ c ∧ q ≠ m ∧ c ≠ m)
    (ho : o5 = .cells (fields ⟨w.heap.size, n, M, w.heap.size + 5, w.heap.size + k, w.heap.size + q, w.heap.size + c, w.heap.size + m, w.heap.size + 6⟩) 73) :
    Mem ((((((w.alloc o0).alloc o1).alloc o2).alloc o3).alloc o4).alloc o5).drew ⟨w.heap.size, n, M, w.heap.size + 5, w.heap.size + k, w.heap.size + q, w.heap.size + c, w.heap.size + m, w.heap.size + 6⟩ (fun _ => .slice none 0 0) 0 (fun _ => .slice none 0 0) U.start0 := by
  subst ho
  have up : ∀ {j : Nat} {o x : Obj}, [o0, o1, o2, o3, o4][j]? = some o → [o0, o1, o2, o3, o4, x][j]? = some o := by
    intro j o x h
    match j, h with
    | 0, h => exact h
    | 1, h => exact h
    | 2, h => exact h
    | 3, h => exact h
    | 4, h => exact h
    | j + 5, h => simp at h
  refine start_mem hn hM (by simp) (by omega) (by omega) (by omega) ?_ ?_ ?_ ?_ ?_
  · exact chain6 w _ _ _ _ _ _ 5 _ rfl
  · exact chain6 w _ _ _ _ _ _ k _ (up gk)
  · exact chain6 w _ _ _ _ _ _ q _ (up gq)
  · exact chain6 w _ _ _ _ _ _ c _ (up gc)
  · exact chain6 w _ _ _ _ _ _ m _ (up gm)
theorem get1 (o0 o1 o2 o3 o4 : Obj) : [o0, o1, o2, o3, o4][1]? = some o1 := rfl
theorem get2 (o0 o1 o2 o3 o4 : Obj) : [o0, o1, o2, o3, o4][2]? = some o2 := rfl
theorem get3 (o0 o1 o2 o3 o4 : Obj) : [o0, o1, o2, o3, o4][3]? = some o3 := rfl
theorem get4 (o0 o1 o2 o3 o4 : Obj) : [o0, o1, o2, o3, o4][4]? = some o4 := rfl
theorem below6 (w : World) (o0 o1 o2 o3 o4 o5 : Obj) : Below w.heap.size w ((((((w.alloc o0).alloc o1).alloc o2).alloc o3).alloc o4).alloc o5).drew :=
  (((((((Below.refl _ w).alloc (Nat.le_refl _) _).alloc (by simp) _).alloc (by simp; omega) _).alloc (by simp; omega) _).alloc (by simp; omega) _).alloc (by simp; omega) _).drew

theorem start_fin {w : World} {n M : Nat} (hn : n ≤ 1048576) (hM : M ≤ 1048576) (o0 o1 o2 o3 o4 o5 : Obj)
    (H : ∃ k q c m, [o0, o1, o2, o3, o4][k]? = some (.cells (madeCells #[.int .i64 0] ((n + 1) * 1)) 3) ∧ [o0, o1, o2, o3, o4][q]? = some (.chan n #[] false 0 0 false) ∧
      [o0, o1, o2, o3, o4][c]? = some (.cells (madeCells #[.slice none 0 0, .int .i64 0, .int .i64 0, .int .i64 0] (M * 4)) 77) ∧ [o0, o1, o2, o3, o4][m]? = some (.map #[] 0) ∧
      ((0 < k ∧ k < 5) ∧ (0 < q ∧ q < 5) ∧ (0 < c ∧ c < 5) ∧ (0 < m ∧ m < 5)) ∧ (k ≠ q ∧ k ≠ c ∧ k ≠ m ∧ q ≠ c ∧ q ≠ m ∧ c ≠ m) ∧
      o5 = .cells (fields ⟨w.heap.size, n, M, w.heap.size + 5, w.heap.size + k, w.heap.size + q, w.heap.size + c, w.heap.size + m, w.heap.size + 6⟩) 73) :
    ∃ p : Bl, Ending.returned (.pointer (some ⟨w.heap.size + 1 + 1 + 1 + 1 + 1, 0, none⟩)) = .returned (.pointer (some ⟨p.pb, 0, none⟩)) ∧ (p.B = w.heap.size ∧ p.n = n ∧ p.M = M) ∧ Mem ((((((w.alloc o0).alloc o1).alloc o2).alloc o3).alloc o4).alloc o5).drew p (fun _ => .slice none 0 0) 0 (fun _ => .slice none 0 0) U.start0 ∧ Below w.heap.size w ((((((w.alloc o0).alloc o1).alloc o2).alloc o3).alloc o4).alloc o5).drew := by
  obtain ⟨k, q, c, m, gk, gq, gc, gm, h2, hd, ho⟩ := H
  exact ⟨_, rfl, ⟨rfl, rfl, rfl⟩, start_end hn hM o0 o1 o2 o3 o4 o5 k q c m gk gq gc gm h2 hd ho, below6 _ _ _ _ _ _ _⟩

set_option maxHeartbeats 40000000 in
set_option maxRecDepth 100000 in
theorem start_any (n M c : Nat) (pv : Option Addr) (w : World) (hn : n ≤ 1048576) (hM : M ≤ 1048576) :
    Calls Try.prog 26 #[.agg #[.int .i64 n, .slice pv M c]] w fun e w' => ∃ p : Bl, e = .returned (.pointer (some ⟨p.pb, 0, none⟩)) ∧ (p.B = w.heap.size ∧ p.n = n ∧ p.M = M) ∧ Mem w' p (fun _ => .slice none 0 0) 0 (fun _ => .slice none 0 0) U.start0 ∧ Below w.heap.size w w' := by
  obtain ⟨i0, hi0, hz0, hz1, hz2⟩ := info_parts info3
  obtain ⟨i1, hi1, hz3, hz4, hz5⟩ := info_parts infoCl
  have hmk : ∀ W : World, (Instr.makeSlice 23 (.int .i64 ((n : Int) + 1)) (.int .i64 ((n : Int) + 1))).run Try.prog W = .ok (.slice (some ⟨W.heap.size, 0, none⟩) (n + 1) (n + 1)) (W.alloc (.cells (madeCells #[.int .i64 0] ((n + 1) * 1)) 3)) := fun W => by
    have h := run_make (P := Try.prog) W 23 3 i0 _ Try.underlying23 hi0 hz0 .i64 .i64 ((n : Int) + 1) ((n : Int) + 1) (by omega) (by omega) (by rw [hz2]; omega) (by omega)
    rw [h, hz1, show ((n : Int) + 1).toNat = n + 1 by omega]
    rfl
  have hmc : ∀ W : World, (Instr.makeSlice 70 (.int .i64 (M : Int)) (.int .i64 (M : Int))).run Try.prog W = .ok (.slice (some ⟨W.heap.size, 0, none⟩) M M) (W.alloc (.cells (madeCells #[.slice none 0 0, .int .i64 0, .int .i64 0, .int .i64 0] (M * 4)) 77)) := fun W => by
    have h := run_make (P := Try.prog) W 70 77 i1 _ Try.underlying70 hi1 hz3 .i64 .i64 (M : Int) (M : Int) (by omega) (by omega) (by rw [hz5]; omega) (by omega)
    rw [h, hz4, show ((M : Int)).toNat = M by omega]
    rfl
  have hmq : ∀ W : World, (Instr.makeChan 69 (.int .i64 (n : Int))).run Try.prog W = .ok (.chan (some W.heap.size)) (W.alloc (.chan n #[] false 0 0 false)) := fun W =>
    run_makeChan Try.underlying69 hi0 .i64 n (by omega) (by rw [hz2]; omega)
  have hmm : ∀ (W : World) (k : Int), (Instr.makeMap 71 (some (.int .i64 k))).run Try.prog W = .ok (.map (some W.heap.size)) (W.alloc (.map #[] 0)) := fun W k => by
    simp [Instr.makeMap, run_underlying Try.underlying71, asInt, asIntOf, Result.andThen]
  obtain ⟨KA, hKA⟩ : ∃ K, madeCells #[Value.int .i64 0] ((n + 1) * 1) = K := ⟨_, rfl⟩
  obtain ⟨CA, hCA⟩ : ∃ K, madeCells #[Value.slice none 0 0, .int .i64 0, .int .i64 0, .int .i64 0] (M * 4) = K := ⟨_, rfl⟩
  rw [hKA] at hmk
  rw [hCA] at hmc
  have HKA := Lib.hid hKA
  have HCA := Lib.hid hCA
  have hw1 : IntKind.i64.wrap ((n : Int) + 1) = (n : Int) + 1 := by simp only [IntKind.wrap_i64]; omega
  clear hKA hCA hi0 hz0 hz1 hz2 hi1 hz3 hz4 hz5
  go_enter Try.func26, Try.ntmps26
  go_wp2
  go_region
  all_goals (go_wp2)
  all_goals (
    go_ret
    refine start_fin hn hM _ _ _ _ _ _ ?_
    first
      | exact ⟨1, 2, 3, 4, by rw [HKA.out]; rfl, rfl, by rw [HCA.out]; rfl, rfl, by decide, by decide, rfl⟩
      | exact ⟨1, 2, 4, 3, by rw [HKA.out]; rfl, rfl, by rw [HCA.out]; rfl, rfl, by decide, by decide, rfl⟩
      | exact ⟨1, 3, 2, 4, by rw [HKA.out]; rfl, rfl, by rw [HCA.out]; rfl, rfl, by decide, by decide, rfl⟩
      | exact ⟨1, 3, 4, 2, by rw [HKA.out]; rfl, rfl, by rw [HCA.out]; rfl, rfl, by decide, by decide, rfl⟩
      | exact ⟨1, 4, 2, 3, by rw [HKA.out]; rfl, rfl, by rw [HCA.out]; rfl, rfl, by decide, by decide, rfl⟩
      | exact ⟨1, 4, 3, 2, by rw [HKA.out]; rfl, rfl, by rw [HCA.out]; rfl, rfl, by decide, by decide, rfl⟩
      | exact ⟨2, 1, 3, 4, by rw [HKA.out]; rfl, rfl, by rw [HCA.out]; rfl, rfl, by decide, by decide, rfl⟩
      | exact ⟨2, 1, 4, 3, by rw [HKA.out]; rfl, rfl, by rw [HCA.out]; rfl, rfl, by decide, by decide, rfl⟩
      | exact ⟨2, 3, 1, 4, by rw [HKA.out]; rfl, rfl, by rw [HCA.out]; rfl, rfl, by decide, by decide, rfl⟩
      | exact ⟨2, 3, 4, 1, by rw [HKA.out]; rfl, rfl, by rw [HCA.out]; rfl, rfl, by decide, by decide, rfl⟩
      | exact ⟨2, 4, 1, 3, by rw [HKA.out]; rfl, rfl, by rw [HCA.out]; rfl, rfl, by decide, by decide, rfl⟩
      | exact ⟨2, 4, 3, 1, by rw [HKA.out]; rfl, rfl, by rw [HCA.out]; rfl, rfl, by decide, by decide, rfl⟩
      | exact ⟨3, 1, 2, 4, by rw [HKA.out]; rfl, rfl, by rw [HCA.out]; rfl, rfl, by decide, by decide, rfl⟩
      | exact ⟨3, 1, 4, 2, by rw [HKA.out]; rfl, rfl, by rw [HCA.out]; rfl, rfl, by decide, by decide, rfl⟩
      | exact ⟨3, 2, 1, 4, by rw [HKA.out]; rfl, rfl, by rw [HCA.out]; rfl, rfl, by decide, by decide, rfl⟩
      | exact ⟨3, 2, 4, 1, by rw [HKA.out]; rfl, rfl, by rw [HCA.out]; rfl, rfl, by decide, by decide, rfl⟩
      | exact ⟨3, 4, 1, 2, by rw [HKA.out]; rfl, rfl, by rw [HCA.out]; rfl, rfl, by decide, by decide, rfl⟩
      | exact ⟨3, 4, 2, 1, by rw [HKA.out]; rfl, rfl, by rw [HCA.out]; rfl, rfl, by decide, by decide, rfl⟩
      | exact ⟨4, 1, 2, 3, by rw [HKA.out]; rfl, rfl, by rw [HCA.out]; rfl, rfl, by decide, by decide, rfl⟩
      | exact ⟨4, 1, 3, 2, by rw [HKA.out]; rfl, rfl, by rw [HCA.out]; rfl, rfl, by decide, by decide, rfl⟩
      | exact ⟨4, 2, 1, 3, by rw [HKA.out]; rfl, rfl, by rw [HCA.out]; rfl, rfl, by decide, by decide, rfl⟩
      | exact ⟨4, 2, 3, 1, by rw [HKA.out]; rfl, rfl, by rw [HCA.out]; rfl, rfl, by decide, by decide, rfl⟩
      | exact ⟨4, 3, 1, 2, by rw [HKA.out]; rfl, rfl, by rw [HCA.out]; rfl, rfl, by decide, by decide, rfl⟩
      | exact ⟨4, 3, 2, 1, by rw [HKA.out]; rfl, rfl, by rw [HCA.out]; rfl, rfl, by decide, by decide, rfl⟩)
end L
end Go.Proofs.Ytoffhaamkhfdeaa
