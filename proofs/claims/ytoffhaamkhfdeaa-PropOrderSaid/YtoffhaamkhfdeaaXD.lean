/- Contract of the reference's Check of formulas. -/
import Derived.Test.YtoffhaamkhfdeaaXC
namespace Go.Proofs.Ytoffhaamkhfdeaa
open Go.RowKit
namespace L
open K

set_option maxHeartbeats 1000000 in
theorem rfcheck_any (n : Int) (v : Value) (L : List (List Int)) (w : World) (hn : I64 n) (hl : ∀ l ∈ L, ∀ x ∈ l, I64 x) (h : Lists w v L) :
    Calls Try.prog 31 #[.agg #[.int .i64 n, v]] w fun e w' => e = .returned (.int .i64 (checkF n L)) ∧ Below w.heap.size w w' := by
  obtain ⟨p, c, rfl, hg, hm, hc⟩ := h
  unfold I64 at hn
  by_cases h1 : n < 0
  · have e : checkF n L = 3 := by simp [checkF, h1]
    rw [e]; clear e
    go_enter Try.func31, Try.ntmps31
    go_wp2
    go_ret
    exact ⟨rfl, (Below.refl _ _).alloc (Nat.le_refl _) _⟩
  by_cases h2 : 1048576 < n
  · have e : checkF n L = 3 := by simp [checkF, h2]
    rw [e]; clear e
    go_enter Try.func31, Try.ntmps31
    go_wp2
    go_ret
    exact ⟨rfl, (Below.refl _ _).alloc (Nat.le_refl _) _⟩
  by_cases h3 : (1048576 : Int) < L.length
  · have e : checkF n L = 5 := by simp [checkF, h1, h2]; omega
    rw [e]; clear e
    go_enter Try.func31, Try.ntmps31
    go_wp2
    go_ret
    exact ⟨rfl, (Below.refl _ _).alloc (Nat.le_refl _) _⟩
  have ec : checkF n L = firstE n L := by simp [checkF, h1, h2]; omega
  have hn' : I64 n := hn
  rw [ec]; clear ec
  go_enter Try.func31, Try.ntmps31
  go_wp2
  go_loopw [3] (fun i wr => ∃ k : Nat, k ≤ L.length ∧ i = .int .i64 k ∧ (∀ j, j < k → checkE n (L.getD j []) = 0) ∧ Below w.heap.size w wr ∧ wr.cell? ⟨w.heap.size, 0, none⟩ = some (.int .i64 n) ∧ wr.cell? ⟨w.heap.size, 1, none⟩ = some (.slice p L.length c)) (fun i _ => L.length - (intOf i).toNat)
  case atStart => exact ⟨0, Nat.zero_le _, rfl, fun j hj => absurd hj (Nat.not_lt_zero _), (Below.refl _ _).alloc (Nat.le_refl _) _, by simp, by simp⟩
  case round =>
    obtain ⟨k, hk, rfl, heq, hb, hbox, hbox1⟩ := hrel
    have HE := Lib.hid heq
    have HL := Lib.hid hl
    clear heq hl
    by_cases hlt : k < L.length
    · obtain ⟨b, o, rfl, e1⟩ := hc (by omega)
      obtain ⟨u, hu, hiu⟩ := e1 k hlt
      have hck := fun W (hW : Below w.heap.size w W) => rcheck_any n u (L.getD k []) W hn' (HL.out _ (mem_getDL hlt)) (hiu.below hW)
      have d1 := (hb.cell (p := ⟨b, o + k, none⟩) (World.block_lt_of_cell? _ _ hu)).trans hu
      have he0 := Lib.hid (fun (hq : checkE n (L.getD k []) ≠ 0) => firstE_at HE.out hlt hq)
      clear hc e1 hu hiu
      generalize hq : checkE n (L.getD k []) = q at *
      have HQ := Lib.hid hq
      have HC := Lib.hid hck
      clear hq hck
      by_cases hz : q = 0
      · subst hz
        go_wp2
        go_quiet ((go_at_call 41; exact Calls.quiet_of_same ((HC.out _ (below_drewN hb _)).mono fun _ _ h => ⟨h.1, h.2.symm⟩)))
        go_wp2
        go_roundw
        case rel =>
          refine ⟨k + 1, by omega, by go_num, fun j hj => ?_, below_drewN hb _, hbox, hbox1⟩
          by_cases hjk : j = k
          · subst hjk; exact HQ.out
          · exact HE.out j (by omega)
        case measure => simp [intOf]; omega
      · have hz' : (q != 0) = true := by simpa using hz
        go_wp2
        go_quiet ((go_at_call 41; exact Calls.quiet_of_same ((HC.out _ (below_drewN hb _)).mono fun _ _ h => ⟨h.1, h.2.symm⟩)))
        go_wp2
        go_ret
        exact ⟨ret_int (he0.out hz).symm, below_drewN hb _⟩
    · go_wp2
      go_ret
      exact ⟨ret_int (firstE_upto HE.out (by omega)).symm, hb⟩
end L
end Go.Proofs.Ytoffhaamkhfdeaa
