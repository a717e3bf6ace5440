/- CnfChecks and CnfFirsts: the walks. -/
import Derived.Test.YtbmpjglplmnlnaaXH
namespace Go.Proofs.Ytbmpjglplmnlnaa
open Go.RowKit
namespace L
open K

theorem wf64 {x : Int} (h : (Lit.int .i64 x).wf = true) : I64 x := by
  simp [Lit.wf, IntKind.min, IntKind.max, IntKind.signed, IntKind.bits] at h
  unfold I64; omega
theorem small_len {L : List (List Int)} (h : smallB L = true) : L.length ≤ 60 ∧ ∀ j, j < L.length → (L.getD j []).length ≤ 40 := by
  simp only [smallB, Bool.and_eq_true, decide_eq_true_eq, List.all_eq_true] at h
  exact ⟨h.1, fun j hj => h.2 _ (mem_getDL hj)⟩
theorem ListsW.small {w : World} {v : Value} {L : List (List Int)} (h : ListsW .i64 w v L) (hs : smallB L = true) : Lists w v L := by
  obtain ⟨h1, h2⟩ := small_len hs
  exact h.lists (by omega) (fun j hj => by have := h2 j hj; omega)

set_option maxHeartbeats 1000000 in
theorem checks_walk (n : Int) (v : Value) (L : List (List Int)) (w : World) (hn0 : (Lit.int .i64 n).wf = true) (hW : ListsW .i64 w v L) :
    Calls Try.prog 3 #[.agg #[.int .i64 n, v]] w fun e w' => e = .returned (.bool true) ∧ Below w.heap.size w w' := by
  have hn := wf64 hn0
  have hl : ∀ l ∈ L, ∀ x ∈ l, I64 x := fun l h x hx => wf64 (hW.wf l h x hx)
  have hsm := fun W (hb : Below w.heap.size w W) => small_any n v L W (hW.below hb)
  have hv : ∃ p c, v = .slice p L.length c := by obtain ⟨p, c, h, _⟩ := hW; exact ⟨p, c, h⟩
  cases hs : smallB L with
  | true =>
    have hI := ListsW.small hW hs
    rw [hs] at hsm
    have h1 := fun W (hb : Below w.heap.size w W) => fcheck_any n v L W hn hl (hI.below hb)
    have h2 := fun W (hb : Below w.heap.size w W) => rfcheck_any n v L W hn hl (hI.below hb)
    obtain ⟨p, c, rfl⟩ := hv
    clear hI hW hl hs
    generalize checkF n L = E at *
    have hE : (E == E) = true := by simp
    have H1 := Lib.hid h1
    have H2 := Lib.hid h2
    have HS := Lib.hid hsm
    clear h1 h2 hsm
    go_enter Try.func3, Try.ntmps3
    go_wp2_with fail
    refine (HS.out _ ((Below.refl _ _).alloc (Nat.le_refl _) _)).mono ?_
    rintro e w1 ⟨rfl, hb1⟩
    have hb := ((Below.refl w.heap.size w).alloc (Nat.le_refl _) (.cells #[.int .i64 n, .slice p L.length c] 24)).trans (hb1.mono (by simp))
    have k0 : ∀ x : Later (w.heap.size + 1) w1, x.W.cell? ⟨w.heap.size, 0, none⟩ = some (.int .i64 n) := fun x => (x.cell (p := ⟨w.heap.size, 0, none⟩) (by simp)).trans ((hb1.cell (p := ⟨w.heap.size, 0, none⟩) (by simp)).trans (by simp))
    have k1 : ∀ x : Later (w.heap.size + 1) w1, x.W.cell? ⟨w.heap.size, 1, none⟩ = some (.slice p L.length c) := fun x => (x.cell (p := ⟨w.heap.size, 1, none⟩) (by simp)).trans ((hb1.cell (p := ⟨w.heap.size, 1, none⟩) (by simp)).trans (by simp))
    have hs1 : w.heap.size + 1 ≤ w1.heap.size := by have := hb1.size; simpa using this
    clear hb1
    go_wp2
    refine wp_region_later (B := w.heap.size + 1) (w0 := w1) (by kernel_rfl) (by kernel_rfl) (Below.refl _ _) ?_
    repeat (go_big_quiet_step (first
      | (go_at_call 13; exact later_of _ ((H1.out _ (hb.trans ((Later.ok _).mono (by omega)))).mono fun _ _ h => ⟨h.1, h.2.mono (by have := (Later.ok (B := w.heap.size + 1) (w := w1) ‹_›).size; omega)⟩))
      | (go_at_call 14; exact later_of _ ((H2.out _ (hb.trans ((Later.ok _).mono (by omega)))).mono fun _ _ h => ⟨h.1, h.2.mono (by have := (Later.ok (B := w.heap.size + 1) (w := w1) ‹_›).size; omega)⟩))
      | (go_at_call 12; exact later_of _ ((known_any _).mono fun _ _ h => ⟨h.1, h.2.mono (by have := (Later.ok (B := w.heap.size + 1) (w := w1) ‹_›).size; omega)⟩))))
    refine wpQuiet_nil ?_
    rintro _ ⟨x, rfl⟩
    have hbx := hb.trans (x.ok.mono (Nat.le_succ _))
    go_wp2
    go_ret
    exact ⟨rfl, hbx⟩
  | false =>
    rw [hs] at hsm
    obtain ⟨p, c, rfl⟩ := hv
    clear hW hl hs
    have HS := Lib.hid hsm
    clear hsm
    go_enter Try.func3, Try.ntmps3
    go_wp2_with fail
    refine (HS.out _ ((Below.refl _ _).alloc (Nat.le_refl _) _)).mono ?_
    rintro e w1 ⟨rfl, hb1⟩
    have hb := ((Below.refl w.heap.size w).alloc (Nat.le_refl _) (.cells #[.int .i64 n, .slice p L.length c] 24)).trans (hb1.mono (by simp))
    clear hb1
    go_wp2_with fail
    refine (known_any _).mono ?_
    rintro e w2 ⟨rfl, hb2⟩
    go_wp2
    go_ret
    exact ⟨rfl, hb.trans (hb2.mono hb.size)⟩
set_option maxHeartbeats 1000000 in
theorem firsts_walk (n : Int) (v : Value) (L : List (List Int)) (vm : Value) (m : List Bool) (w : World) (hn0 : (Lit.int .i64 n).wf = true) (hW : ListsW .i64 w v L) (hM : BoolsW w vm m) :
    Calls Try.prog 4 #[.agg #[.int .i64 n, v], vm] w fun e w' => e = .returned (.bool true) ∧ Below w.heap.size w w' := by
  have hn := wf64 hn0
  have hl : ∀ l ∈ L, ∀ x ∈ l, I64 x := fun l h x hx => wf64 (hW.wf l h x hx)
  have hsm := fun W (hb : Below w.heap.size w W) => small_any n v L W (hW.below hb)
  have hv : ∃ p c, v = .slice p L.length c := by obtain ⟨p, c, h, _⟩ := hW; exact ⟨p, c, h⟩
  have hvm : ∃ p c, vm = .slice p m.length c ∧ (m.length : Int) ≤ 9223372036854775807 := by obtain ⟨p, c, h, h1, h2, _⟩ := hM; exact ⟨p, c, h, by have : c ≤ 9223372036854775807 := h2; omega⟩
  have hb0 : Below w.heap.size w (w.alloc (.cells #[.int .i64 n, v] 24)) := (Below.refl _ _).alloc (Nat.le_refl _) _
  by_cases hs : smallB L = true
  · have hI := ListsW.small hW hs
    rw [hs] at hsm
    by_cases hm : (m.length : Int) ≤ 200
    · have hB := hM.bools (by omega)
      have h1 := fun W (hb : Below w.heap.size w W) => first_any n v vm L m W hn hl (hI.below hb) (hB.below hb)
      have h2 := fun W (hb : Below w.heap.size w W) => rfirst_any n v vm L m W hn hl (hI.below hb) (hB.below hb)
      obtain ⟨p, c, rfl⟩ := hv
      obtain ⟨pm, cm, rfl, hml⟩ := hvm
      clear hI hW hl hs hM hB
      generalize firstF n L m = E at *
      obtain ⟨E1, E2⟩ := E
      have hE1 : (E1 == E1) = true := by simp
      have hE2 : (E2 == E2) = true := by simp
      have H1 := Lib.hid h1
      have H2 := Lib.hid h2
      have HS := Lib.hid hsm
      clear h1 h2 hsm
      go_enter Try.func4, Try.ntmps4
      go_wp2_with fail
      refine (HS.out _ hb0).mono ?_
      rintro e w1 ⟨rfl, hb1⟩
      have hb := hb0.trans (hb1.mono (by simp))
      have k0 : w1.cell? ⟨w.heap.size, 0, none⟩ = some (.int .i64 n) := (hb1.cell (p := ⟨w.heap.size, 0, none⟩) (by simp)).trans (by simp)
      have k1 : w1.cell? ⟨w.heap.size, 1, none⟩ = some (.slice p L.length c) := (hb1.cell (p := ⟨w.heap.size, 1, none⟩) (by simp)).trans (by simp)
      have hs1 : w.heap.size < w1.heap.size := by have := hb1.size; simp at this; omega
      clear hb1
      go_wp2_with fail
      refine (H1.out _ hb).mono ?_
      rintro e w2 ⟨rfl, hb2⟩
      have k0' := (hb2.cell (p := ⟨w.heap.size, 0, none⟩) hs1).trans k0
      have k1' := (hb2.cell (p := ⟨w.heap.size, 1, none⟩) hs1).trans k1
      have hbb := hb.trans (hb2.mono hb.size)
      clear k0 k1 hb2 hb
      go_wp2_with fail
      refine (H2.out _ hbb).mono ?_
      rintro e w3 ⟨rfl, hb3⟩
      have hbc := hbb.trans (hb3.mono hbb.size)
      clear k0' k1' hb3 hbb
      go_wp2_with fail
      refine (known_any _).mono ?_
      rintro e w4 ⟨rfl, hb4⟩
      go_wp2
      go_ret
      exact ⟨rfl, hbc.trans (hb4.mono hbc.size)⟩
    · obtain ⟨p, c, rfl⟩ := hv
      obtain ⟨pm, cm, rfl, hml⟩ := hvm
      have HS := Lib.hid hsm
      clear hI hW hl hs hM hsm
      go_enter Try.func4, Try.ntmps4
      go_wp2_with fail
      refine (HS.out _ hb0).mono ?_
      rintro e w1 ⟨rfl, hb1⟩
      have hb := hb0.trans (hb1.mono (by simp))
      clear hb1
      go_wp2_with fail
      refine (known_any _).mono ?_
      rintro e w4 ⟨rfl, hb4⟩
      go_wp2
      go_ret
      exact ⟨rfl, hb.trans (hb4.mono hb.size)⟩
  · have hs' : smallB L = false := by simpa using hs
    rw [hs'] at hsm
    obtain ⟨p, c, rfl⟩ := hv
    obtain ⟨pm, cm, rfl, hml⟩ := hvm
    have HS := Lib.hid hsm
    clear hW hl hs hs' hM hsm
    go_enter Try.func4, Try.ntmps4
    go_wp2_with fail
    refine (HS.out _ hb0).mono ?_
    rintro e w1 ⟨rfl, hb1⟩
    have hb := hb0.trans (hb1.mono (by simp))
    clear hb1
    go_wp2_with fail
    refine (known_any _).mono ?_
    rintro e w4 ⟨rfl, hb4⟩
    go_wp2
    go_ret
    exact ⟨rfl, hb.trans (hb4.mono hb.size)⟩
end L
end Go.Proofs.Ytbmpjglplmnlnaa
