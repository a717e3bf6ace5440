/- OpOfs: the walk. -/
import Derived.Test.YtgnblodelaoaoaaDoorOS
namespace Go.Proofs.YtgnblodelaoaoaaDoor
open Go.RowKit
namespace L
set_option maxRecDepth 100000

set_option maxHeartbeats 1000000 in
theorem ofs8_walk (s : ByteArray) (w : World) (hT : OpTab w) (_hs : s.size ≤ maxLen) :
    Calls Tryd.prog 4 #[.string s] w fun e w' => e = .returned (.bool true) ∧ Below w.heap.size w w' := by
  have HK := Lib.hid fun W (hb : Below w.heap.size w W) => known8_any W (hT.below hb)
  have HO : Hid (∀ W, Calls Tryd.prog 17 #[.string s] W fun e w' => e = .returned (.tuple #[.int .u8 (ofV s.data.toList), .int .i64 (ofE s.data.toList)]) ∧ Below W.heap.size W w') := fun W => of_any s.data.toList W
  have HR : Hid (∀ W, Calls Tryd.prog 18 #[.string s] W fun e w' => e = .returned (.tuple #[.int .u8 (ofV s.data.toList), .int .i64 (ofE s.data.toList)]) ∧ Below W.heap.size W w') := fun W => rof_any s.data.toList W
  clear hT
  generalize ofV s.data.toList = q1 at *
  generalize ofE s.data.toList = q2 at *
  by_cases h : s.size ≤ 2000
  · have h1 : ¬ (s.size : Int) > 2000 := by omega
    go_enter Tryd.func4, Tryd.ntmps4
    go_wp2_with fail
    refine (HO.out _).mono ?_
    rintro e w1 ⟨rfl, hb1⟩
    have HB1 := Lib.hid hb1
    clear hb1
    go_wp2_with fail
    refine (HR.out _).mono ?_
    rintro e w2 ⟨rfl, hb2⟩
    have HB2 := Lib.hid (HB1.out.trans (hb2.mono HB1.out.size))
    clear hb2
    go_wp2_with (go_at_call 16; refine (HK.out _ HB2.out).mono ?_; rintro e w3 ⟨rfl, hb3⟩; have HB3 := Lib.hid hb3; clear hb3)
    go_ret
    exact ⟨rfl, HB2.out.trans (HB3.out.mono HB2.out.size)⟩
  · have h1 : (s.size : Int) > 2000 := by omega
    go_enter Tryd.func4, Tryd.ntmps4
    go_wp2_with (go_at_call 16; refine (HK.out _ (Below.refl _ _)).mono ?_; rintro e w3 ⟨rfl, hb3⟩; have HB3 := Lib.hid hb3; clear hb3)
    go_ret
    exact ⟨rfl, HB3.out⟩
end L
end Go.Proofs.YtgnblodelaoaoaaDoor
