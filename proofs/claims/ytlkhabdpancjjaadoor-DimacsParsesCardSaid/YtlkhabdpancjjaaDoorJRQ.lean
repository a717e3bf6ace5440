/- Contract of the reference's header. -/
import Derived.Test.YtlkhabdpancjjaaDoorJNE
import Derived.Test.YtlkhabdpancjjaaDoorQ16
import Derived.OwnWalk
namespace Go.Proofs.YtlkhabdpancjjaaDoor
open Go.RowKit PA
namespace L
open K

/-- A slice value that reads as a list of texts. -/
def StrsR (W : World) (v : Value) (ws : List ByteArray) : Prop :=
  ∃ p cap, v = .slice p ws.length cap ∧ ws.length ≤ cap ∧ (0 < ws.length → ∃ b off, p = some ⟨b, off, none⟩ ∧ ∀ j, j < ws.length → W.cell? ⟨b, off + j, none⟩ = some (.string (ws.getD j ByteArray.empty)))
def lstR (ws : List ByteArray) : List (List UInt8) := ws.map (·.data.toList)
theorem eq_strR (a : ByteArray) (l : List UInt8) : (a.toList == l) = decide (a.data.toList = l) := by
  rw [ByteArray.toList_eq, Bool.eq_iff_iff]; simp
theorem head_fourR (a b c d : List UInt8) : headR [a, b, c, d] =
    if a ≠ [112] ∨ b ≠ [99, 110, 102] then (0, 0, 4)
    else if (numR c).2 = false ∨ (numR d).2 = false ∨ (numR c).1 < 0 ∨ (numR d).1 < 0 then (0, 0, 4)
    else if 1048576 < (numR c).1 then (0, 0, 3) else if 1048576 < (numR d).1 then (0, 0, 5) else ((numR c).1, (numR d).1, 0) := by
  unfold headR; simp
theorem four_ofR {α : Type} {l : List α} (h : l.length = 4) : ∃ a b c d, l = [a, b, c, d] := by
  match l, h with
  | [a, b, c, d], _ => exact ⟨a, b, c, d, rfl⟩

set_option maxRecDepth 100000 in
set_option maxHeartbeats 4000000 in
theorem rheader_any (v : Value) (ws : List ByteArray) (W : World) (hws : ∀ a ∈ ws, a.size ≤ 9223372036854775807) (hv : StrsR W v ws) (hlen : ws.length ≤ 9223372036854775807) :
    Calls Tryd.prog 28 #[v] W fun e w' => e = .returned (.tuple #[.int .i64 (headR (lstR ws)).1, .int .i64 (headR (lstR ws)).2.1, .int .i64 (headR (lstR ws)).2.2]) ∧ W = w' := by
  obtain ⟨p, cp, rfl, hcp, hcell⟩ := hv
  obtain ⟨x, hx⟩ : ∃ x, headR (lstR ws) = x := ⟨_, rfl⟩
  rw [hx]
  by_cases h4 : ws.length = 4
  · obtain ⟨a, b, c, d, rfl⟩ := four_ofR h4
    clear h4
    simp only [lstR, List.map_cons, List.map_nil] at hx
    rw [head_fourR] at hx
    have hna := rnumber_any c W (hws c (by simp))
    have hnb := rnumber_any d W (hws d (by simp))
    unfold numR at *
    obtain ⟨x1, o1, hx1⟩ : ∃ x o, numM 1099511627776 c.data.toList = (x, o) := ⟨_, _, rfl⟩
    obtain ⟨x2, o2, hx2⟩ : ∃ x o, numM 1099511627776 d.data.toList = (x, o) := ⟨_, _, rfl⟩
    rw [hx1] at hna hx
    rw [hx2] at hnb hx
    simp only at hna hnb hx
    clear hx1 hx2 hws hlen hcp
    obtain ⟨g, off, rfl, e⟩ := hcell (by simp)
    have e0 := e 0 (by simp)
    have e1 := e 1 (by simp)
    have e2 := e 2 (by simp)
    have e3 := e 3 (by simp)
    simp only [List.getD_cons_zero, List.getD_cons_succ, Nat.add_zero] at e0 e1 e2 e3
    clear e hcell
    by_cases hap : a.data.toList = [112]
    · have q1 : (a.toList == [112]) = true := by rw [eq_strR]; simpa using hap
      have q1' : (!a.toList == [112]) = false := by rw [q1]; rfl
      have q1l : a.toList = [112] := by simpa using q1
      by_cases hbp : b.data.toList = [99, 110, 102]
      · have q2 : (b.toList == [99, 110, 102]) = true := by rw [eq_strR]; simpa using hbp
        have q2' : (!b.toList == [99, 110, 102]) = false := by rw [q2]; rfl
        have q2l : b.toList = [99, 110, 102] := by simpa using q2
        rw [if_neg (by simp [hap, hbp])] at hx
        clear hap hbp
        by_cases k1 : o1 = false
        · subst k1
          rw [if_pos (.inl rfl)] at hx
          subst hx
          go_enter Tryd.func28, Tryd.ntmps28
          go_wp2_with fail
          refine hna.mono ?_
          rintro e w1 ⟨rfl, rfl⟩
          clear hna
          go_wp2_with fail
          refine hnb.mono ?_
          rintro e w2 ⟨rfl, rfl⟩
          clear hnb
          go_wp2
          go_ret3
          exact ⟨rfl, rfl⟩
        obtain rfl : o1 = true := by simpa using k1
        by_cases k2 : o2 = false
        · subst k2
          rw [if_pos (.inr (.inl rfl))] at hx
          subst hx
          go_enter Tryd.func28, Tryd.ntmps28
          go_wp2_with fail
          refine hna.mono ?_
          rintro e w1 ⟨rfl, rfl⟩
          clear hna
          go_wp2_with fail
          refine hnb.mono ?_
          rintro e w2 ⟨rfl, rfl⟩
          clear hnb
          go_wp2
          go_ret3
          exact ⟨rfl, rfl⟩
        obtain rfl : o2 = true := by simpa using k2
        clear k1 k2
        by_cases k3 : x1 < 0
        · rw [if_pos (.inr (.inr (.inl k3)))] at hx
          subst hx
          go_enter Tryd.func28, Tryd.ntmps28
          go_wp2_with fail
          refine hna.mono ?_
          rintro e w1 ⟨rfl, rfl⟩
          clear hna
          go_wp2_with fail
          refine hnb.mono ?_
          rintro e w2 ⟨rfl, rfl⟩
          clear hnb
          go_wp2
          go_ret3
          exact ⟨rfl, rfl⟩
        by_cases k4 : x2 < 0
        · rw [if_pos (.inr (.inr (.inr k4)))] at hx
          subst hx
          go_enter Tryd.func28, Tryd.ntmps28
          go_wp2_with fail
          refine hna.mono ?_
          rintro e w1 ⟨rfl, rfl⟩
          clear hna
          go_wp2_with fail
          refine hnb.mono ?_
          rintro e w2 ⟨rfl, rfl⟩
          clear hnb
          go_wp2
          go_ret3
          exact ⟨rfl, rfl⟩
        rw [if_neg (by simp [k3, k4])] at hx
        by_cases k5 : 1048576 < x1
        · rw [if_pos k5] at hx
          subst hx
          go_enter Tryd.func28, Tryd.ntmps28
          go_wp2_with fail
          refine hna.mono ?_
          rintro e w1 ⟨rfl, rfl⟩
          clear hna
          go_wp2_with fail
          refine hnb.mono ?_
          rintro e w2 ⟨rfl, rfl⟩
          clear hnb
          go_wp2
          go_ret3
          exact ⟨rfl, rfl⟩
        rw [if_neg k5] at hx
        by_cases k6 : 1048576 < x2
        · rw [if_pos k6] at hx
          subst hx
          go_enter Tryd.func28, Tryd.ntmps28
          go_wp2_with fail
          refine hna.mono ?_
          rintro e w1 ⟨rfl, rfl⟩
          clear hna
          go_wp2_with fail
          refine hnb.mono ?_
          rintro e w2 ⟨rfl, rfl⟩
          clear hnb
          go_wp2
          go_ret3
          exact ⟨rfl, rfl⟩
        rw [if_neg k6] at hx
        subst hx
        go_enter Tryd.func28, Tryd.ntmps28
        go_wp2_with fail
        refine hna.mono ?_
        rintro e w1 ⟨rfl, rfl⟩
        clear hna
        go_wp2_with fail
        refine hnb.mono ?_
        rintro e w2 ⟨rfl, rfl⟩
        clear hnb
        go_wp2
        go_ret3
        exact ⟨rfl, rfl⟩
      · have q2 : (b.toList == [99, 110, 102]) = false := by rw [eq_strR]; simpa using hbp
        have q2' : (!b.toList == [99, 110, 102]) = true := by rw [q2]; rfl
        have q2l : ¬ b.toList = [99, 110, 102] := by simpa using q2
        rw [if_pos (.inr hbp)] at hx
        subst hx
        clear hna hnb hap hbp
        go_enter Tryd.func28, Tryd.ntmps28
        go_wp2
        go_ret3
        exact ⟨rfl, rfl⟩
    · have q1 : (a.toList == [112]) = false := by rw [eq_strR]; simpa using hap
      have q1' : (!a.toList == [112]) = true := by rw [q1]; rfl
      have q1l : ¬ a.toList = [112] := by simpa using q1
      rw [if_pos (.inl hap)] at hx
      subst hx
      clear hna hnb hap
      go_enter Tryd.func28, Tryd.ntmps28
      go_wp2
      go_ret3
      exact ⟨rfl, rfl⟩
  · have h4' : ((ws.length : Int) != 4) = true := by simp; omega
    have hx' : x = (0, 0, 4) := by rw [← hx]; unfold headR; rw [if_pos (.inl (by simpa [lstR] using h4))]
    subst hx'
    clear hx hcell hws
    go_enter Tryd.func28, Tryd.ntmps28
    go_wp2
    go_ret3
    exact ⟨rfl, rfl⟩
end L
end Go.Proofs.YtlkhabdpancjjaaDoor
