/- LitChecks and LitHolds: the walks. -/
import Derived.Test.YtfpojpiajggncaaN
import Derived.Test.YtfpojpiajggncaaO
namespace Go.Proofs.Ytfpojpiajggncaa
open Go.RowKit
namespace L
open K

theorem i64_of {x : Int} (h : (Lit.int .i64 x).wf = true) : I64 x := by
  simp [Lit.wf, IntKind.min, IntKind.max, IntKind.signed, IntKind.bits] at h
  unfold I64; omega
theorem IntsW.wf64 {w : World} {v : Value} {l : List Int} (h : IntsW .i64 w v l) : ∀ x ∈ l, I64 x := by
  obtain ⟨p, cap, hv, h1, _, h3, h2⟩ := h
  exact fun x hx => i64_of (h3 x hx)

set_option maxHeartbeats 2000000 in
theorem checks_walk (n : Int) (v : Value) (l : List Int) (w : World) (hn0 : (Lit.int .i64 n).wf = true) (hW : IntsW .i64 w v l) :
    Calls Try.prog 3 #[.int .i64 n, v] w fun e w' => e = .returned (.bool true) ∧ Below w.heap.size w w' := by
  have hn := i64_of hn0
  have hl := IntsW.wf64 hW
  have hsh : ∃ p cap, v = .slice p l.length cap := by obtain ⟨p, cap, hv, _⟩ := hW; exact ⟨p, cap, hv⟩
  by_cases h2 : 200 < l.length
  · obtain ⟨p, cap, rfl⟩ := hsh
    clear hW hl hn0
    go_enter Try.func3, Try.ntmps3
    go_wp2_with (go_at_call 12; refine (known_any _).mono ?_; rintro e w' ⟨rfl, hbw⟩)
    go_ret
    exact ⟨rfl, by assumption⟩
  · have hI := hW.ints (by omega)
    obtain ⟨p, cap, rfl⟩ := hsh
    clear hW hn0
    go_enter Try.func3, Try.ntmps3
    go_wp2_with fail
    refine (copy_any _ l _ hI).mono ?_
    rintro e w1 ⟨v', rfl, hown, hb⟩
    have hI1 := owns_ints hown (by omega)
    have hI0 := hI.below hb
    clear hown hI
    go_wp2_with fail
    refine (check_any n _ l _ hn hl hI1).mono ?_
    rintro e w2 ⟨rfl, rfl⟩
    go_wp2_with fail
    refine (rcheck_any n _ l _ hn hl hI0).mono ?_
    rintro e w2 ⟨rfl, rfl⟩
    clear hI0 hI1
    generalize checkE n l = E
    have hE : (E == E) = true := by simp
    go_wp2_with (go_at_call 12; refine (known_any _).mono ?_; rintro e w' ⟨rfl, hbw⟩)
    go_ret
    exact ⟨rfl, hb.trans ((by assumption : Below w1.heap.size w1 _).mono hb.size)⟩

set_option maxHeartbeats 2000000 in
theorem holds_walk (vm : Value) (m : List Bool) (v : Value) (l : List Int) (w : World) (hM : BoolsW w vm m) (hW : IntsW .i64 w v l) :
    Calls Try.prog 5 #[vm, v] w fun e w' => e = .returned (.bool true) ∧ Below w.heap.size w w' := by
  have hl := IntsW.wf64 hW
  have hsh : ∃ p cap, v = .slice p l.length cap := by obtain ⟨p, cap, hv, _⟩ := hW; exact ⟨p, cap, hv⟩
  have hshm : ∃ p cap, vm = .slice p m.length cap := by obtain ⟨p, cap, hv, _⟩ := hM; exact ⟨p, cap, hv⟩
  by_cases h1 : 200 < m.length
  · obtain ⟨p, cap, rfl⟩ := hsh
    obtain ⟨pm, capm, rfl⟩ := hshm
    clear hW hM hl
    go_enter Try.func5, Try.ntmps5
    go_wp2_with (go_at_call 12; refine (known_any _).mono ?_; rintro e w' ⟨rfl, hbw⟩)
    go_ret
    exact ⟨rfl, by assumption⟩
  by_cases h2 : 200 < l.length
  · obtain ⟨p, cap, rfl⟩ := hsh
    obtain ⟨pm, capm, rfl⟩ := hshm
    clear hW hM hl
    go_enter Try.func5, Try.ntmps5
    go_wp2_with (go_at_call 12; refine (known_any _).mono ?_; rintro e w' ⟨rfl, hbw⟩)
    go_ret
    exact ⟨rfl, by assumption⟩
  · have hI := hW.ints (by omega)
    have hB := hM.bools (by omega)
    obtain ⟨p, cap, rfl⟩ := hsh
    obtain ⟨pm, capm, rfl⟩ := hshm
    clear hW hM
    go_enter Try.func5, Try.ntmps5
    go_wp2_with fail
    refine (copy_any _ l _ hI).mono ?_
    rintro e w1 ⟨v', rfl, hown, hb⟩
    have hI1 := owns_ints hown (by omega)
    have hI0 := hI.below hb
    have hB0 := hB.below hb
    clear hown hI hB
    go_wp2_with fail
    refine (holds_any _ _ m l _ hl hB0 hI1).mono ?_
    rintro e w2 ⟨rfl, rfl⟩
    go_wp2_with fail
    refine (rholds_any _ _ m l _ hl hB0 hI0).mono ?_
    rintro e w2 ⟨rfl, hb2⟩
    clear hI0 hI1 hB0
    generalize holdsB m l = E
    have hE : (E == E) = true := by simp
    go_wp2_with (go_at_call 12; refine (known_any _).mono ?_; rintro e w' ⟨rfl, hbw⟩)
    go_ret
    have hb3 := hb.trans (hb2.mono hb.size)
    exact ⟨rfl, hb3.trans ((by assumption : Below w2.heap.size w2 _).mono hb3.size)⟩
end L
end Go.Proofs.Ytfpojpiajggncaa
