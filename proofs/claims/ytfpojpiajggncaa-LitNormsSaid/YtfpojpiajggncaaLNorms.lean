/- LitNorms: the walk. -/
import Derived.Test.YtfpojpiajggncaaLChecks
import Derived.Test.YtfpojpiajggncaaRN
namespace Go.Proofs.Ytfpojpiajggncaa
open Go.RowKit
namespace L
open K

set_option maxHeartbeats 4000000 in
theorem norms_walk (vc : Value) (c : List Int) (a b : Int) (w : World) (hC : IntsW .i64 w vc c) (ha0 : (Lit.int .i64 a).wf = true) (hb0 : (Lit.int .i64 b).wf = true) :
    Calls Try.prog 4 #[vc, .int .i64 a, .int .i64 b] w fun e w' => e = .returned (.bool true) ∧ Below w.heap.size w w' := by
  have ha := i64_of ha0
  have hb := i64_of hb0
  have hlc := IntsW.wf64 hC
  have hshc : ∃ p cap, vc = .slice p c.length cap := by obtain ⟨p, cap, hv, _⟩ := hC; exact ⟨p, cap, hv⟩
  by_cases h1 : 200 < c.length
  · obtain ⟨pc, capc, rfl⟩ := hshc
    clear hC hlc ha0 hb0
    go_enter Try.func4, Try.ntmps4
    go_wp2_with (go_at_call 12; refine (known_any _).mono ?_; rintro e w' ⟨rfl, hbw⟩)
    go_ret
    exact ⟨rfl, by assumption⟩
  have hI := hC.ints (by omega)
  obtain ⟨pc, capc, rfl⟩ := hshc
  clear hC ha0 hb0
  go_enter Try.func4, Try.ntmps4
  go_wp2_with fail
  refine (copy_any _ c _ hI).mono ?_
  rintro e w1 ⟨vin, rfl, hown, hb1⟩
  have hIn := owns_ints hown (by omega)
  have hI1 := hI.below hb1
  clear hown hI
  go_wp2_with fail
  refine (norm_any _ c _ hlc hIn).mono ?_
  rintro e w2 ⟨vx, rfl, hIx, hb2⟩
  have hIn2 := hIn.below hb2
  have hI2 := hI1.below hb2
  have hbw2 := hb1.trans (hb2.mono hb1.size)
  clear hIn hI1 hb1 hb2
  go_wp2_with fail
  refine (rnorm_any _ c _ hlc hI2).mono ?_
  rintro e w3 ⟨vy, rfl, hIy, hb3⟩
  have hIn3 := hIn2.below hb3
  have hI3 := hI2.below hb3
  have hIx3 := hIx.below hb3
  have hbw3 := hbw2.trans (hb3.mono hbw2.size)
  clear hIn2 hI2 hIx hb3 hbw2
  go_wp2_with fail
  generalize (normR c).getD [] = r at *
  have hQ := equal_any _ _ r r w3 hIx3 hIy
  rw [show decide (r = r) = true from by simp] at hQ
  refine hQ.mono ?_
  rintro e w4 ⟨rfl, hb4⟩
  have hIn4 := hIn3.below hb4
  have hI4 := hI3.below hb4
  have hbw4 := hbw3.trans (hb4.mono hbw3.size)
  clear hIn3 hI3 hIx3 hIy hb4 hbw3 hQ
  generalize (normR c).isNone = B
  have hB : (B == B) = true := by simp
  go_wp2_with fail
  have hQ := equal_any _ _ c c w4 hIn4 hI4
  rw [show decide (c = c) = true from by simp] at hQ
  refine hQ.mono ?_
  rintro e w5 ⟨rfl, hb5⟩
  have hbw5 := hbw4.trans (hb5.mono hbw4.size)
  clear hIn4 hI4 hb5 hbw4 hQ
  go_wp2_with fail
  refine (less_any _ _ ha hb _).mono ?_
  rintro e w6 ⟨rfl, rfl⟩
  go_wp2_with fail
  refine (rless_any _ _ ha hb _).mono ?_
  rintro e w6 ⟨rfl, rfl⟩
  generalize lessB a b = B2
  have hB2 : (B2 == B2) = true := by simp
  go_wp2_with (go_at_call 12; refine (known_any _).mono ?_; rintro e w' ⟨rfl, hbw⟩)
  go_ret
  exact ⟨rfl, hbw5.trans ((by assumption : Below w5.heap.size w5 _).mono hbw5.size)⟩
end L
end Go.Proofs.Ytfpojpiajggncaa
