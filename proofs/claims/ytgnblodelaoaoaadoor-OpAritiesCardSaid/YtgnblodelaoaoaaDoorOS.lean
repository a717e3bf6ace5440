/- Contracts of the reference's Of and of known. -/
import Derived.Test.YtgnblodelaoaoaaDoorOR
namespace Go.Proofs.YtgnblodelaoaoaaDoor
open Go.RowKit
namespace L
set_option maxRecDepth 100000

theorem str_cmp (k : Nat) (s : List UInt8) : ((⟨(NL.getD k []).toArray⟩ : ByteArray).toList == (⟨s.toArray⟩ : ByteArray).toList) = decide (NL.getD k [] = s) := str_same _ _

set_option maxHeartbeats 1000000 in
theorem rof_any (s : List UInt8) (w : World) :
    Calls Tryd.prog 18 #[str s] w fun e w' => e = .returned (.tuple #[.int .u8 (ofV s), .int .i64 (ofE s)]) ∧ Below w.heap.size w w' := by
  obtain ⟨t, ht⟩ : ∃ t : ByteArray, t = ⟨s.toArray⟩ := ⟨_, rfl⟩
  show Calls Tryd.prog _ #[.string ⟨s.toArray⟩] _ _
  rw [← ht]
  have HT := Lib.hid ht; clear ht
  have hb : Below w.heap.size w (w.alloc (.cells (NL.map str).toArray 9)) := (Below.refl _ w).alloc (Nat.le_refl _) _
  have HC := Lib.hid (names_cell w)
  go_enter Tryd.func18, Tryd.ntmps18
  go_wp2_with (go_at_call 19; refine (names_any _).mono ?_; rintro e w' ⟨rfl, rfl⟩; refine Hid.out ?_)
  refine Lib.hid ?_
  have HB := Lib.hid hb; clear hb
  generalize w.alloc (.cells (NL.map str).toArray 9) = w1 at *
  go_wp2
  go_loop [5] (fun iv => ∃ i : Nat, iv = .int .i64 (i : Int) ∧ i ≤ 20 ∧ Hid (∀ j, j < i → NL.getD j [] ≠ s)) (fun iv => 20 - (intOf iv).toNat)
  case atStart => exact ⟨0, rfl, by omega, fun j hj => absurd hj (Nat.not_lt_zero j)⟩
  case round =>
    obtain ⟨i, rfl, hi, hj⟩ := hrel
    by_cases hlt : i < 20
    · have h1 : (i : Int) < 20 := by omega
      have hc : w1.cell? ⟨w.heap.size, i, none⟩ = some (.string ⟨(NL.getD i []).toArray⟩) := HC.out i hlt
      have hse : ((⟨(NL.getD i []).toArray⟩ : ByteArray).toList == t.toList) = decide (NL.getD i [] = s) := by rw [HT.out]; exact str_cmp i s
      have HSE := Lib.hid hse; clear hse
      generalize hgen : (⟨(NL.getD i []).toArray⟩ : ByteArray) = E at *
      have HG := Lib.hid hgen; clear hgen
      by_cases he : NL.getD i [] = s
      · have ho : ofN s = i := ofN_is s _ hlt he
        have hq : (E.toList == t.toList) = true := by rw [HSE.out]; exact decide_eq_true he
        have E1 : Hid (ofV s = ((i + 2 : Nat) : Int)) := Lib.hid (by simp [ofV, ho, hlt])
        have E2 : Hid (ofE s = 0) := Lib.hid (by simp [ofE, ho, hlt])
        have HE := Lib.hid he; have HO := Lib.hid ho
        clear he ho
        have h2 : IntKind.u8.wrap (i : Int) = (i : Int) := by simp only [IntKind.wrap_u8]; omega
        have h3 : IntKind.u8.wrap (2 + (i : Int)) = (i : Int) + 2 := by simp only [IntKind.wrap_u8]; omega
        go_wp2
        go_ret2
        exact ⟨by rw [E1.out, E2.out]; rfl, HB.out⟩
      · have hq : (E.toList == t.toList) = false := by rw [HSE.out]; exact decide_eq_false he
        have hnew : Hid (∀ j, j < i + 1 → NL.getD j [] ≠ s) := by
          intro j hj2
          rcases Nat.lt_succ_iff_lt_or_eq.1 hj2 with h | rfl
          · exact hj.out j h
          · exact he
        have HE := Lib.hid he
        clear he
        go_wp2
        go_round
        case rel => exact ⟨i + 1, by simp, by omega, hnew⟩
        case measure => simp [intOf]; omega
    · obtain rfl : i = 20 := by omega
      have hn : ofN s = 20 := ofN_not s hj.out
      have E1 : Hid (ofV s = 0) := Lib.hid (by simp [ofV, hn])
      have E2 : Hid (ofE s = 6) := Lib.hid (by simp [ofE, hn])
      have HN := Lib.hid hn; clear hn
      go_wp2
      go_ret2
      exact ⟨by rw [E1.out, E2.out]; rfl, HB.out⟩

theorem nm20 : nmS 20 = [115, 108, 101] ∧ nmE 20 = 0 := by decide +kernel
theorem ofx : ofV [120, 111, 114] = 11 ∧ ofE [120, 111, 114] = 0 := by decide +kernel
set_option maxHeartbeats 400000 in
theorem known8_any (w : World) (hT : OpTab w) :
    Calls Tryd.prog 16 #[] w fun e w' => e = .returned (.bool true) ∧ Below w.heap.size w w' := by
  have H1 : Hid (Calls Tryd.prog 12 #[.int .u8 20] w fun e w' => e = .returned (.tuple #[.string ⟨#[115, 108, 101]⟩, .int .i64 0]) ∧ w = w') := by
    have := name_any 20 w (by omega) hT
    rw [nm20.1, nm20.2] at this
    exact this
  have H2 : Hid (Calls Tryd.prog 17 #[.string ⟨#[120, 111, 114]⟩] w fun e w' => e = .returned (.tuple #[.int .u8 11, .int .i64 0]) ∧ Below w.heap.size w w') := by
    have := of_any [120, 111, 114] w
    rw [ofx.1, ofx.2] at this
    exact this
  clear hT
  go_enter Tryd.func16, Tryd.ntmps16
  go_wp2_with (first | (go_at_call 12; refine (H1.out).mono ?_; rintro e w' ⟨rfl, rfl⟩) | (go_at_call 17; refine (H2.out).mono ?_; rintro e w' ⟨rfl, hb⟩; have HB := Lib.hid hb; clear hb))
  go_ret
  exact ⟨rfl, HB.out⟩
end L
end Go.Proofs.YtgnblodelaoaoaaDoor
