/- Contracts of cnf.First and of the reference's First. -/
import Derived.Test.YtbmpjglplmnlnaaXF
namespace Go.Proofs.Ytbmpjglplmnlnaa
open Go.RowKit
namespace L
open K

theorem ret_two {a b c d : Int} (h : (a, b) = (c, d)) : Ending.returned (.tuple #[.int .i64 a, .int .i64 b]) = .returned (.tuple #[.int .i64 c, .int .i64 d]) := by
  cases h; rfl

set_option maxHeartbeats 1000000 in
theorem first_any (n : Int) (v vm : Value) (L : List (List Int)) (m : List Bool) (w : World) (hn : I64 n) (hl : ∀ l ∈ L, ∀ x ∈ l, I64 x) (h : Lists w v L) (hM : Bools w vm m) :
    Calls Try.prog 15 #[.agg #[.int .i64 n, v], vm] w fun e w' => e = .returned (.tuple #[.int .i64 (firstF n L m).1, .int .i64 (firstF n L m).2]) ∧ Below w.heap.size w w' := by
  have hck := fun W (hW : Below w.heap.size w W) => fcheck_any n v L W hn hl (h.below hW)
  have hix := fun W (hW : Below w.heap.size w W) bx hb => index_any bx vm v m L W hl (hM.below hW) (h.below hW) hb
  obtain ⟨p, c, rfl, hg, hm, hc⟩ := h
  obtain ⟨pm, cm, rfl, hgm, hmm, hcm⟩ := hM
  clear hc hcm hl
  have HF : firstF n L m = if checkF n L ≠ 0 then (0, checkF n L) else if (m.length : Int) ≠ n then (0, 2) else (firstI m L, 0) := rfl
  generalize firstF n L m = R at *
  have HF := Lib.hid HF
  have HC := Lib.hid hck
  have HI := Lib.hid hix
  clear hck hix
  rename_i HF0
  clear HF0
  generalize hq : checkF n L = q at *
  have HQ := Lib.hid hq
  clear hq
  by_cases h1 : q = 0
  · subst h1
    by_cases h2 : (m.length : Int) = n
    · have h2' : ((m.length : Int) != n) = false := by simpa using h2
      have eR : R = (firstI m L, 0) := by have := HF.out; simpa [h2] using this
      subst eR
      have H2 := Lib.hid h2
      clear h2 HF
      go_enter Try.func15, Try.ntmps15
      go_wp2_with fail
      refine (HC.out _ (((Below.refl _ _).alloc (Nat.le_refl _) _).alloc (by simp) _)).mono ?_
      rintro e w1 ⟨rfl, hb1⟩
      have hb := (((Below.refl w.heap.size w).alloc (Nat.le_refl _) (.cells #[.int .i64 n, .slice p L.length c] 24)).alloc (by simp) (.cells #[.slice pm m.length cm] 29)).trans (hb1.mono (by simp; omega))
      have k0 : w1.cell? ⟨w.heap.size, 0, none⟩ = some (.int .i64 n) := (hb1.cell (p := ⟨w.heap.size, 0, none⟩) (by simp; omega)).trans (by simp)
      have k1 : w1.cell? ⟨w.heap.size, 1, none⟩ = some (.slice p L.length c) := (hb1.cell (p := ⟨w.heap.size, 1, none⟩) (by simp; omega)).trans (by simp)
      have k2 : w1.cell? ⟨w.heap.size + 1, 0, none⟩ = some (.slice pm m.length cm) := (hb1.cell (p := ⟨w.heap.size + 1, 0, none⟩) (by simp)).trans (by simp)
      go_wp2_with fail
      refine (HI.out _ hb _ k2).mono ?_
      rintro e w2 ⟨rfl, rfl⟩
      go_wp2
      go_ret2
      exact ⟨rfl, hb⟩
    · have h2' : ((m.length : Int) != n) = true := by simpa using h2
      have eR : R = (0, 2) := by have := HF.out; simpa [h2] using this
      subst eR
      clear HF
      go_enter Try.func15, Try.ntmps15
      go_wp2_with fail
      refine (HC.out _ (((Below.refl _ _).alloc (Nat.le_refl _) _).alloc (by simp) _)).mono ?_
      rintro e w1 ⟨rfl, hb1⟩
      have hb := (((Below.refl w.heap.size w).alloc (Nat.le_refl _) (.cells #[.int .i64 n, .slice p L.length c] 24)).alloc (by simp) (.cells #[.slice pm m.length cm] 29)).trans (hb1.mono (by simp; omega))
      have k0 : w1.cell? ⟨w.heap.size, 0, none⟩ = some (.int .i64 n) := (hb1.cell (p := ⟨w.heap.size, 0, none⟩) (by simp; omega)).trans (by simp)
      have k2 : w1.cell? ⟨w.heap.size + 1, 0, none⟩ = some (.slice pm m.length cm) := (hb1.cell (p := ⟨w.heap.size + 1, 0, none⟩) (by simp)).trans (by simp)
      go_wp2
      go_ret2
      exact ⟨rfl, hb⟩
  · have h1' : (q != 0) = true := by simpa using h1
    have eR : R = (0, q) := by have := HF.out; simpa [h1] using this
    subst eR
    clear HF
    go_enter Try.func15, Try.ntmps15
    go_wp2_with fail
    refine (HC.out _ (((Below.refl _ _).alloc (Nat.le_refl _) _).alloc (by simp) _)).mono ?_
    rintro e w1 ⟨rfl, hb1⟩
    have hb := (((Below.refl w.heap.size w).alloc (Nat.le_refl _) (.cells #[.int .i64 n, .slice p L.length c] 24)).alloc (by simp) (.cells #[.slice pm m.length cm] 29)).trans (hb1.mono (by simp; omega))
    go_wp2
    go_ret2
    exact ⟨rfl, hb⟩

set_option maxHeartbeats 1000000 in
theorem rfirst_any (n : Int) (v vm : Value) (L : List (List Int)) (m : List Bool) (w : World) (hn : I64 n) (hl : ∀ l ∈ L, ∀ x ∈ l, I64 x) (h : Lists w v L) (hM : Bools w vm m) :
    Calls Try.prog 16 #[.agg #[.int .i64 n, v], vm] w fun e w' => e = .returned (.tuple #[.int .i64 (firstF n L m).1, .int .i64 (firstF n L m).2]) ∧ Below w.heap.size w w' := by
  have hck := fun W (hW : Below w.heap.size w W) => rfcheck_any n v L W hn hl (h.below hW)
  have hM' := hM
  obtain ⟨p, c, rfl, hg, hm, hc⟩ := h
  obtain ⟨pm, cm, rfl, hgm, hmm, hcm⟩ := hM
  clear hcm
  have HF : firstF n L m = if checkF n L ≠ 0 then (0, checkF n L) else if (m.length : Int) ≠ n then (0, 2) else (firstI m L, 0) := rfl
  generalize firstF n L m = R at *
  have HF := Lib.hid HF
  have HC := Lib.hid hck
  clear hck
  rename_i HF0
  clear HF0
  generalize hq : checkF n L = q at *
  have HQ := Lib.hid hq
  clear hq
  by_cases h1 : q = 0
  · subst h1
    by_cases h2 : (m.length : Int) = n
    · have h2' : ((m.length : Int) != n) = false := by simpa using h2
      have eR : R = (firstI m L, 0) := by have := HF.out; simpa [h2] using this
      subst eR
      have H2 := Lib.hid h2
      clear h2 HF
      go_enter Try.func16, Try.ntmps16
      go_wp2_with fail
      refine (HC.out _ ((Below.refl _ _).alloc (Nat.le_refl _) _)).mono ?_
      rintro e w1 ⟨rfl, hb1⟩
      have hb := ((Below.refl w.heap.size w).alloc (Nat.le_refl _) (.cells #[.int .i64 n, .slice p L.length c] 24)).trans (hb1.mono (by simp))
      have k0 : w1.cell? ⟨w.heap.size, 0, none⟩ = some (.int .i64 n) := (hb1.cell (p := ⟨w.heap.size, 0, none⟩) (by simp)).trans (by simp)
      have k1 : w1.cell? ⟨w.heap.size, 1, none⟩ = some (.slice p L.length c) := (hb1.cell (p := ⟨w.heap.size, 1, none⟩) (by simp)).trans (by simp)
      have hs1 : w.heap.size < w1.heap.size := by have := hb1.size; simp at this; omega
      clear hb1
      go_wp2
      go_loopw [7] (fun i wr => ∃ k : Nat, k ≤ L.length ∧ i = .int .i64 k ∧ (∀ j, j < k → holdsB m (L.getD j []) = true) ∧ Below w.heap.size w wr ∧ wr.cell? ⟨w.heap.size, 0, none⟩ = some (.int .i64 n) ∧ wr.cell? ⟨w.heap.size, 1, none⟩ = some (.slice p L.length c) ∧ w.heap.size < wr.heap.size) (fun i _ => L.length - (intOf i).toNat)
      case atStart => exact ⟨0, Nat.zero_le _, rfl, fun j hj => absurd hj (Nat.not_lt_zero _), hb, k0, k1, hs1⟩
      case round =>
        clear hb k0 k1
        obtain ⟨k, hk, rfl, heq, hb, k0, k1, hs⟩ := hrel
        have HE := Lib.hid heq
        have HL := Lib.hid hl
        clear heq hl
        by_cases hlt : k < L.length
        · obtain ⟨b, o, rfl, e1⟩ := hc (by omega)
          obtain ⟨u, hu, hiu⟩ := e1 k hlt
          have hck := rholds_any (.slice pm m.length cm) u m (L.getD k []) wr (HL.out _ (mem_getDL hlt)) (hM'.below hb) (hiu.below hb)
          have d1 := (hb.cell (p := ⟨b, o + k, none⟩) (World.block_lt_of_cell? _ _ hu)).trans hu
          have he0 := Lib.hid (fun (hq : holdsB m (L.getD k []) = false) => firstI_at HE.out hlt hq)
          clear hc e1 hiu hM' hu
          generalize hq : holdsB m (L.getD k []) = q at *
          have HQ' := Lib.hid hq
          clear hq
          cases q with
          | true =>
            go_wp2_with fail
            refine hck.mono ?_
            rintro e w2 ⟨rfl, hb2⟩
            have k0' := (hb2.cell (p := ⟨w.heap.size, 0, none⟩) hs).trans k0
            have k1' := (hb2.cell (p := ⟨w.heap.size, 1, none⟩) hs).trans k1
            have hs' : w.heap.size < w2.heap.size := by have := hb2.size; omega
            have hbb := hb.trans (hb2.mono (Nat.le_of_lt hs))
            go_wp2
            go_roundw
            case rel =>
              refine ⟨k + 1, by omega, by go_num, fun j hj => ?_, hbb, k0', k1', hs'⟩
              by_cases hjk : j = k
              · subst hjk; exact HQ'.out
              · exact HE.out j (by omega)
            case measure => simp [intOf]; omega
          | false =>
            go_wp2_with fail
            refine hck.mono ?_
            rintro e w2 ⟨rfl, hb2⟩
            have hbb := hb.trans (hb2.mono (Nat.le_of_lt hs))
            go_wp2
            go_ret2
            exact ⟨ret_two (by rw [he0.out trivial]), hbb⟩
        · go_wp2
          go_ret2
          exact ⟨ret_two (by rw [firstI_upto HE.out (by omega)]), hb⟩
    · have h2' : ((m.length : Int) != n) = true := by simpa using h2
      have eR : R = (0, 2) := by have := HF.out; simpa [h2] using this
      subst eR
      clear HF
      go_enter Try.func16, Try.ntmps16
      go_wp2_with fail
      refine (HC.out _ ((Below.refl _ _).alloc (Nat.le_refl _) _)).mono ?_
      rintro e w1 ⟨rfl, hb1⟩
      have hb := ((Below.refl w.heap.size w).alloc (Nat.le_refl _) (.cells #[.int .i64 n, .slice p L.length c] 24)).trans (hb1.mono (by simp))
      have k0 : w1.cell? ⟨w.heap.size, 0, none⟩ = some (.int .i64 n) := (hb1.cell (p := ⟨w.heap.size, 0, none⟩) (by simp)).trans (by simp)
      go_wp2
      go_ret2
      exact ⟨rfl, hb⟩
  · have h1' : (q != 0) = true := by simpa using h1
    have eR : R = (0, q) := by have := HF.out; simpa [h1] using this
    subst eR
    clear HF
    go_enter Try.func16, Try.ntmps16
    go_wp2_with fail
    refine (HC.out _ ((Below.refl _ _).alloc (Nat.le_refl _) _)).mono ?_
    rintro e w1 ⟨rfl, hb1⟩
    have hb := ((Below.refl w.heap.size w).alloc (Nat.le_refl _) (.cells #[.int .i64 n, .slice p L.length c] 24)).trans (hb1.mono (by simp))
    go_wp2
    go_ret2
    exact ⟨rfl, hb⟩
end L
end Go.Proofs.Ytbmpjglplmnlnaa
