/- Contracts of cnf.Check and of the reference's Check. -/
import Derived.Test.YtoffhaamkhfdeaaXB
import Derived.WalkMore
import Derived.ScopeJumps
namespace Go.Proofs.Ytoffhaamkhfdeaa
open Go.RowKit
namespace L
open K

/-- The first error of a clause. -/
def firstE (n : Int) : List (List Int) → Int
  | [] => 0
  | l :: r => if checkE n l = 0 then firstE n r else checkE n l
/-- What Check returns. -/
def checkF (n : Int) (L : List (List Int)) : Int :=
  if n < 0 ∨ 1048576 < n then 3 else if 1048576 < L.length then 5 else firstE n L

theorem firstE_upto {n : Int} {L : List (List Int)} {k : Nat} (h : ∀ j, j < k → checkE n (L.getD j []) = 0) (hk : L.length ≤ k) : firstE n L = 0 := by
  induction L generalizing k with
  | nil => rfl
  | cons l r ih =>
    have h0 := h 0 (by simp at hk; omega)
    simp at h0
    simp only [firstE, h0, if_true]
    exact ih (k := k - 1) (fun j hj => by simpa using h (j + 1) (by omega)) (by simp at hk; omega)
theorem firstE_at {n : Int} {L : List (List Int)} {k : Nat} (h : ∀ j, j < k → checkE n (L.getD j []) = 0) (hk : k < L.length) (he : checkE n (L.getD k []) ≠ 0) : firstE n L = checkE n (L.getD k []) := by
  induction L generalizing k with
  | nil => simp at hk
  | cons l r ih =>
    cases k with
    | zero => simp at he ⊢; simp [firstE, he]
    | succ k =>
      have h0 := h 0 (by omega)
      simp at h0
      simp only [firstE, h0, if_true]
      simp at he ⊢
      exact ih (fun j hj => by simpa using h (j + 1) (by omega)) (by simpa using hk) he
theorem jump_ret {l : Nat} {J : Act → World → Prop} {Q : Exit → Act → World → Prop} {a : Act} {w : World} : Exit.jump l J Q .ret a w = Q .ret a w := rfl
theorem mem_getDL {L : List (List Int)} {k : Nat} (h : k < L.length) : L.getD k [] ∈ L := by
  rw [List.getD, List.getElem?_eq_getElem h]; exact List.getElem_mem h

set_option maxHeartbeats 1000000 in
theorem fcheck_any (n : Int) (v : Value) (L : List (List Int)) (w : World) (hn : I64 n) (hl : ∀ l ∈ L, ∀ x ∈ l, I64 x) (h : Lists w v L) :
    Calls Try.prog 33 #[.agg #[.int .i64 n, v]] w fun e w' => e = .returned (.int .i64 (checkF n L)) ∧ Below w.heap.size w w' := by
  obtain ⟨p, c, rfl, hg, hm, hc⟩ := h
  unfold I64 at hn
  by_cases h1 : n < 0
  · have e : checkF n L = 3 := by simp [checkF, h1]
    rw [e]; clear e
    go_enter Try.func33, Try.ntmps33
    go_wp2
    go_step3
    go_wp2
    rw [Exit.noGoto_ret]
    go_ret
    exact ⟨rfl, (Below.refl _ _).alloc (Nat.le_refl _) _⟩
  by_cases h2 : 1048576 < n
  · have e : checkF n L = 3 := by simp [checkF, h2]
    rw [e]; clear e
    go_enter Try.func33, Try.ntmps33
    go_wp2
    go_step3
    go_wp2
    rw [Exit.noGoto_ret]
    go_ret
    exact ⟨rfl, (Below.refl _ _).alloc (Nat.le_refl _) _⟩
  by_cases h3 : (1048576 : Int) < L.length
  · have e : checkF n L = 5 := by simp [checkF, h1, h2]; omega
    rw [e]; clear e
    go_enter Try.func33, Try.ntmps33
    go_wp2
    go_step3
    go_wp2
    rw [Exit.noGoto_ret]
    go_ret
    exact ⟨rfl, (Below.refl _ _).alloc (Nat.le_refl _) _⟩
  have ec : checkF n L = firstE n L := by simp [checkF, h1, h2]; omega
  have hn' : I64 n := hn
  rw [ec]; clear ec
  go_enter Try.func33, Try.ntmps33
  go_wp2
  refine wp_scope_jumps 0 (fun a' w' => Below w.heap.size w w' ∧ ∃ (E : Int) (u0 u1 u2 u4 u5 u6 u7 u8 u9 u10 u11 u12 u13 u14 u15 u16 u17 u18 u19 u20 u21 u22 u23 u24 u25 u26 u27 u28 u29 u30 u31 u32 : Value), a' = { tmps := #[u0, u1, u2, .int .i64 E, u4, u5, u6, u7, u8, u9, u10, u11, u12, u13, u14, u15, u16, u17, u18, u19, u20, u21, u22, u23, u24, u25, u26, u27, u28, u29, u30, u31, u32], defers := [] } ∧ E = firstE n L) (fun _ _ => 0) rfl ?_ ?_
  · go_wp2
    go_loopw [3, 5, 21] (fun s3 _ i wr => ∃ k : Nat, k ≤ L.length ∧ i = .int .i64 k ∧ s3 = .int .i64 0 ∧ (∀ j, j < k → checkE n (L.getD j []) = 0) ∧ Below w.heap.size w wr ∧ wr.cell? ⟨w.heap.size, 0, none⟩ = some (.int .i64 n)) (fun _ _ i _ => L.length - (intOf i).toNat)
    case atStart => exact ⟨0, Nat.zero_le _, rfl, rfl, fun j hj => absurd hj (Nat.not_lt_zero _), (Below.refl _ _).alloc (Nat.le_refl _) _, by simp⟩
    case round =>
      obtain ⟨k, hk, rfl, rfl, heq, hb, hbox⟩ := hrel
      have HE := Lib.hid heq
      have HL := Lib.hid hl
      clear heq hl
      by_cases hlt : k < L.length
      · obtain ⟨b, o, rfl, e1⟩ := hc (by omega)
        obtain ⟨u, hu, hiu⟩ := e1 k hlt
        have hck := check_any n u (L.getD k []) wr hn' (HL.out _ (mem_getDL hlt)) (hiu.below hb)
        have d1 := (hb.cell (p := ⟨b, o + k, none⟩) (World.block_lt_of_cell? _ _ hu)).trans hu
        have he0 := Lib.hid (fun (hq : checkE n (L.getD k []) ≠ 0) => firstE_at HE.out hlt hq)
        clear hc e1 hu hiu
        generalize hq : checkE n (L.getD k []) = q at *
        have HQ := Lib.hid hq
        clear hq
        by_cases hz : q = 0
        · subst hz
          go_wp2_with fail
          refine hck.mono ?_
          rintro e w' ⟨rfl, rfl⟩
          go_wp2
          go_roundw
          case rel =>
            refine ⟨k + 1, by omega, by go_num, rfl, fun j hj => ?_, hb, hbox⟩
            by_cases hjk : j = k
            · subst hjk; exact HQ.out
            · exact HE.out j (by omega)
          case measure => simp [intOf]; omega
        · have hz' : (q != 0) = true := by simpa using hz
          go_wp2_with fail
          refine hck.mono ?_
          rintro e w' ⟨rfl, rfl⟩
          go_wp2
          go_step3
          refine ⟨rfl, hb, q, _, _, _, _, _, _, _, _, _, _, _, _, _, _, _, _, _, _, _, _, _, _, _, _, _, _, _, _, _, _, _, _, rfl, (he0.out hz).symm⟩
      · go_wp2
        go_step3
        go_wp2
        rw [jump_ret]
        go_ret
        exact ⟨ret_int (firstE_upto HE.out (by omega)).symm, hb⟩
  · rintro a' w' ⟨hb, E, u0, u1, u2, u4, u5, u6, u7, u8, u9, u10, u11, u12, u13, u14, u15, u16, u17, u18, u19, u20, u21, u22, u23, u24, u25, u26, u27, u28, u29, u30, u31, u32, rfl, rfl⟩
    go_wp2
    rw [jump_ret]
    go_ret
    exact ⟨rfl, hb⟩
end L
end Go.Proofs.Ytoffhaamkhfdeaa
