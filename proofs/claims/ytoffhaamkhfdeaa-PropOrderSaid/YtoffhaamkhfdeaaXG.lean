/- Contracts of cnf.First and of the reference's First. -/
import Derived.Test.YtoffhaamkhfdeaaXF
namespace Go.Proofs.Ytoffhaamkhfdeaa
open Go.RowKit
namespace L
open K

theorem ret_two {a b c d : Int} (h : (a, b) = (c, d)) : Ending.returned (.tuple #[.int .i64 a, .int .i64 b]) = .returned (.tuple #[.int .i64 c, .int .i64 d]) := by
  cases h; rfl

set_option maxHeartbeats 1000000 in
theorem first_any (n : Int) (v vm : Value) (L : List (List Int)) (m : List Bool) (w : World) (hn : I64 n) (hl : ∀ l ∈ L, ∀ x ∈ l, I64 x) (h : Lists w v L) (hM : Bools w vm m) :
    Calls Try.prog 24 #[.agg #[.int .i64 n, v], vm] w fun e w' => e = .returned (.tuple #[.int .i64 (firstF n L m).1, .int .i64 (firstF n L m).2]) ∧ Below w.heap.size w w' := by
  have hck := fun W (hW : Below w.heap.size w W) => fcheck_any n v L W hn hl (h.below hW)
  have hix := fun W (hW : Below w.heap.size w W) bx hb => index_any bx vm v m L W hl (hM.below hW) (h.below hW) hb
  obtain ⟨p, c, rfl, hg, hm, hc⟩ := h
  obtain ⟨pm, cm, rfl, hgm, hmm, hcm⟩ := hM
  clear hc hcm hl
  have HF : firstF n L m = if checkF n L ≠ 0 then (0, checkF n L) else if (m.length : Int) ≠ n then (0, 2) else (firstI m L, 0) := rfl
  generalize firstF n L m = R at *
  have HF := Lib.hid HF
  have HC := Lib.hid hck
  have HI := Lib.hid hix
  clear hck hix
  rename_i HF0
  clear HF0
  generalize hq : checkF n L = q at *
  have HQ := Lib.hid hq
  clear hq
  by_cases h1 : q = 0
  · subst h1
    by_cases h2 : (m.length : Int) = n
    · have h2' : ((m.length : Int) != n) = false := by simpa using h2
      have eR : R = (firstI m L, 0) := by have := HF.out; simpa [h2] using this
      subst eR
      have H2 := Lib.hid h2
      clear h2 HF
      go_enter Try.func24, Try.ntmps24
      go_wp2_with fail
      refine (HC.out _ (((Below.refl _ _).alloc (Nat.le_refl _) _).alloc (by simp) _)).mono ?_
      rintro e w1 ⟨rfl, hb1⟩
      have hb := (((Below.refl w.heap.size w).alloc (Nat.le_refl _) (.cells #[.int .i64 n, .slice p L.length c] 26)).alloc (by simp) (.cells #[.slice pm m.length cm] 48)).trans (hb1.mono (by simp; omega))
      have k0 : w1.cell? ⟨w.heap.size, 0, none⟩ = some (.int .i64 n) := (hb1.cell (p := ⟨w.heap.size, 0, none⟩) (by simp; omega)).trans (by simp)
      have k1 : w1.cell? ⟨w.heap.size, 1, none⟩ = some (.slice p L.length c) := (hb1.cell (p := ⟨w.heap.size, 1, none⟩) (by simp; omega)).trans (by simp)
      have k2 : w1.cell? ⟨w.heap.size + 1, 0, none⟩ = some (.slice pm m.length cm) := (hb1.cell (p := ⟨w.heap.size + 1, 0, none⟩) (by simp)).trans (by simp)
      go_wp2_with fail
      refine (HI.out _ hb _ k2).mono ?_
      rintro e w2 ⟨rfl, rfl⟩
      go_wp2
      go_ret2
      exact ⟨rfl, hb⟩
    · have h2' : ((m.length : Int) != n) = true := by simpa using h2
      have eR : R = (0, 2) := by have := HF.out; simpa [h2] using this
      subst eR
      clear HF
      go_enter Try.func24, Try.ntmps24
      go_wp2_with fail
      refine (HC.out _ (((Below.refl _ _).alloc (Nat.le_refl _) _).alloc (by simp) _)).mono ?_
      rintro e w1 ⟨rfl, hb1⟩
      have hb := (((Below.refl w.heap.size w).alloc (Nat.le_refl _) (.cells #[.int .i64 n, .slice p L.length c] 26)).alloc (by simp) (.cells #[.slice pm m.length cm] 48)).trans (hb1.mono (by simp; omega))
      have k0 : w1.cell? ⟨w.heap.size, 0, none⟩ = some (.int .i64 n) := (hb1.cell (p := ⟨w.heap.size, 0, none⟩) (by simp; omega)).trans (by simp)
      have k2 : w1.cell? ⟨w.heap.size + 1, 0, none⟩ = some (.slice pm m.length cm) := (hb1.cell (p := ⟨w.heap.size + 1, 0, none⟩) (by simp)).trans (by simp)
      go_wp2
      go_ret2
      exact ⟨rfl, hb⟩
  · have h1' : (q != 0) = true := by simpa using h1
    have eR : R = (0, q) := by have := HF.out; simpa [h1] using this
    subst eR
    clear HF
    go_enter Try.func24, Try.ntmps24
    go_wp2_with fail
    refine (HC.out _ (((Below.refl _ _).alloc (Nat.le_refl _) _).alloc (by simp) _)).mono ?_
    rintro e w1 ⟨rfl, hb1⟩
    have hb := (((Below.refl w.heap.size w).alloc (Nat.le_refl _) (.cells #[.int .i64 n, .slice p L.length c] 26)).alloc (by simp) (.cells #[.slice pm m.length cm] 48)).trans (hb1.mono (by simp; omega))
    go_wp2
    go_ret2
    exact ⟨rfl, hb⟩

end L
end Go.Proofs.Ytoffhaamkhfdeaa
