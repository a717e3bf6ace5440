/- The reference's heap: Bump, Push, Has, Len. -/
import Derived.Test.YtenmgkomffnjaaaHT
import Derived.Test.YtenmgkomffnjaaaHI
namespace Go.Proofs.Ytenmgkomffnjaaa
open Go.RowKit
namespace L
open K HP
set_option maxRecDepth 100000
section
variable {lo hi : Nat} {w : World} {p : Value} {A : List Int} {S : List Bool}

set_option maxHeartbeats 2000000 in
theorem rbump_bad (h : RefAt lo hi w p A S) (v b : Int) (hv : ¬ ((1 ≤ v ∧ v ≤ (A.length : Int)) ∧ 0 ≤ b ∧ b ≤ 1099511627776)) :
    Calls Try.prog 15 #[p, .int .i64 v, .int .i64 b] w fun e w' => e = .returned (.int .i64 3) ∧ w = w' := by
  obtain ⟨g, va, vi, rfl, h⟩ := h
  obtain ⟨pi, ci, rfl⟩ := owns_shape h.ins
  have x1 := h.box.cell 1
  simp only [List.getElem?_toArray, List.getElem?_cons_zero, List.getElem?_cons_succ] at x1
  clear h
  generalize A.length = n at *
  have hc : (v < 1) ∨ (¬ v < 1 ∧ (n : Int) < v) ∨ (¬ v < 1 ∧ ¬ (n : Int) < v ∧ b < 0) ∨ (¬ v < 1 ∧ ¬ (n : Int) < v ∧ ¬ b < 0 ∧ (1099511627776 : Int) < b) := by omega
  clear hv
  rcases hc with h1 | ⟨h1, h2⟩ | ⟨h1, h2, h3⟩ | ⟨h1, h2, h3, h4⟩
  · have d1 : decide (v < 1) = true := decide_eq_true h1
    go_enter Try.func15, Try.ntmps15
    go_wp2
    go_ret
    exact ⟨rfl, rfl⟩
  · have d1 : decide (v < 1) = false := decide_eq_false h1
    have d2 : decide (v > (n : Int)) = true := decide_eq_true h2
    go_enter Try.func15, Try.ntmps15
    go_wp2
    go_ret
    exact ⟨rfl, rfl⟩
  · have d1 : decide (v < 1) = false := decide_eq_false h1
    have d2 : decide (v > (n : Int)) = false := decide_eq_false h2
    have d3 : decide (b < 0) = true := decide_eq_true h3
    go_enter Try.func15, Try.ntmps15
    go_wp2
    go_ret
    exact ⟨rfl, rfl⟩
  · have d1 : decide (v < 1) = false := decide_eq_false h1
    have d2 : decide (v > (n : Int)) = false := decide_eq_false h2
    have d3 : decide (b < 0) = false := decide_eq_false h3
    have d4 : decide (b > 1099511627776) = true := decide_eq_true h4
    go_enter Try.func15, Try.ntmps15
    go_wp2
    go_ret
    exact ⟨rfl, rfl⟩

set_option maxHeartbeats 4000000 in
theorem rbump_any (h : RefAt lo hi w p A S) (i : Nat) (b : Int) (hi0 : i < A.length) (hb0 : 0 ≤ b) (hb1 : b ≤ 1099511627776) :
    Calls Try.prog 15 #[p, .int .i64 ((i : Int) + 1), .int .i64 b] w fun e w' =>
      (A.getD i 0 + b ≤ 1152921504606846976 → e = .returned (.int .i64 0) ∧ RefAt lo hi w' p (A.set i (A.getD i 0 + b)) S ∧ Out lo hi w w') ∧
      (¬ A.getD i 0 + b ≤ 1152921504606846976 → e = .returned (.int .i64 3) ∧ w = w') := by
  obtain ⟨ha0, ha1⟩ := h.acts i hi0
  obtain ⟨g, va, vi, rfl, h⟩ := h
  have hsm := h.small
  obtain ⟨pi, ci, rfl⟩ := owns_shape h.ins
  obtain ⟨ga, ca, rfl, h1, h2, hc⟩ := h.formA (by omega)
  have x0 := h.box.cell 0
  have x1 := h.box.cell 1
  simp only [List.getElem?_toArray, List.getElem?_cons_zero, List.getElem?_cons_succ] at x0 x1
  have c0 := hc i hi0
  have f0 := h.act.frozenAt i
  have hne := h.ne_a ga rfl
  have hfin : A.getD i 0 + b ≤ 1152921504606846976 → RefAt lo hi (w.setCell ⟨ga, i, none⟩ (.int .i64 (A.getD i 0 + b))).drew (.pointer (some ⟨g, 0, none⟩)) (A.set i (A.getD i 0 + b)) S ∧ Out lo hi w (w.setCell ⟨ga, i, none⟩ (.int .i64 (A.getD i 0 + b))).drew := fun hle => by
    have hm := h.storeA i (A.getD i 0 + b) (by omega) hle
    exact ⟨RefAt.grow ⟨g, _, _, rfl, hm⟩ (Below.refl _ _).drew, ((Out.refl lo hi w).setCell (p := ⟨ga, i, none⟩) h1 h2 _).trod (Below.refl _ _).drew⟩
  have HF := Lib.hid hfin
  have d1 : decide ((i : Int) + 1 < 1) = false := decide_eq_false (by omega)
  have d2 : decide ((i : Int) + 1 > (A.length : Int)) = false := decide_eq_false (by omega)
  have d3 : decide (b < 0) = false := decide_eq_false (by omega)
  have d4 : decide (b > 1099511627776) = false := decide_eq_false (by omega)
  clear hfin h hc
  generalize A.set i (A.getD i 0 + b) = A' at *
  generalize A.getD i 0 = a at *
  generalize A.length = n at *
  by_cases hle : a + b ≤ 1152921504606846976
  · go_enter Try.func15, Try.ntmps15
    go_wp2
    go_region
    go_wp2
    go_ret
    obtain ⟨k1, k2⟩ := HF.out hle
    exact ⟨⟨rfl, k1, k2⟩, fun h => by omega⟩
  · go_enter Try.func15, Try.ntmps15
    go_wp2
    go_ret
    exact ⟨fun h => by omega, ⟨rfl, rfl⟩⟩

set_option maxHeartbeats 1000000 in
theorem rpush_bad (h : RefAt lo hi w p A S) (v : Int) (hv : ¬ (1 ≤ v ∧ v ≤ (A.length : Int))) :
    Calls Try.prog 19 #[p, .int .i64 v] w fun e w' => e = .returned (.int .i64 3) ∧ w = w' := by
  obtain ⟨g, va, vi, rfl, h⟩ := h
  obtain ⟨pi, ci, rfl⟩ := owns_shape h.ins
  have x1 := h.box.cell 1
  simp only [List.getElem?_toArray, List.getElem?_cons_zero, List.getElem?_cons_succ] at x1
  clear h
  generalize A.length = n at *
  by_cases h1 : v < 1
  · have d1 : decide (v < 1) = true := decide_eq_true h1
    clear hv
    go_enter Try.func19, Try.ntmps19
    go_wp2
    go_ret
    exact ⟨rfl, rfl⟩
  · have d1 : decide (v < 1) = false := decide_eq_false h1
    have d2 : decide (v > (n : Int)) = true := decide_eq_true (by omega)
    clear hv
    go_enter Try.func19, Try.ntmps19
    go_wp2
    go_ret
    exact ⟨rfl, rfl⟩
set_option maxHeartbeats 1000000 in
theorem rpush_any (h : RefAt lo hi w p A S) (i : Nat) (hi0 : i < A.length) :
    Calls Try.prog 19 #[p, .int .i64 ((i : Int) + 1)] w fun e w' => e = .returned (.int .i64 0) ∧ RefAt lo hi w' p A (S.set i true) ∧ Out lo hi w w' := by
  obtain ⟨g, va, vi, rfl, h⟩ := h
  have hsm := h.small
  obtain ⟨gi, ci, rfl, h1, h2, hc⟩ := h.formI (by omega)
  have x1 := h.box.cell 1
  simp only [List.getElem?_toArray, List.getElem?_cons_zero, List.getElem?_cons_succ] at x1
  have c0 := hc i hi0
  have f0 := h.ins.frozenAt i
  have hst : RefAt lo hi (w.setCell ⟨gi, i, none⟩ (.bool true)) (.pointer (some ⟨g, 0, none⟩)) A (S.set i true) := ⟨g, _, _, rfl, h.storeI i true⟩
  have HST := Lib.hid hst
  have HO := Lib.hid ((Out.refl lo hi w).setCell (p := ⟨gi, i, none⟩) h1 h2 (.bool true))
  have d1 : decide ((i : Int) + 1 < 1) = false := decide_eq_false (by omega)
  have d2 : decide ((i : Int) + 1 > (A.length : Int)) = false := decide_eq_false (by omega)
  clear hst h hc
  generalize S.getD i false = q at *
  generalize A.length = n at *
  go_enter Try.func19, Try.ntmps19
  go_wp2
  go_ret
  exact ⟨rfl, HST.out, HO.out⟩
set_option maxHeartbeats 1000000 in
theorem rhas_any (h : RefAt lo hi w p A S) (v : Int) :
    Calls Try.prog 21 #[p, .int .i64 v] w fun e w' => ∃ b, e = .returned (.bool b) ∧ (b = true ↔ InH A (fun x => S.getD x false = true) v) ∧ w = w' := by
  obtain ⟨g, va, vi, rfl, h⟩ := h
  have hsm := h.small
  have x1 := h.box.cell 1
  simp only [List.getElem?_toArray, List.getElem?_cons_zero, List.getElem?_cons_succ] at x1
  by_cases hr : 1 ≤ v ∧ v ≤ (A.length : Int)
  · obtain ⟨i, rfl⟩ : ∃ i : Nat, v = (i : Int) + 1 := ⟨(v - 1).toNat, by omega⟩
    have hi0 : i < A.length := by omega
    obtain ⟨gi, ci, rfl, h1, h2, hc⟩ := h.formI (by omega)
    have c0 := hc i hi0
    have HIN : Hid (S.getD i false = true ↔ InH A (fun x => S.getD x false = true) ((i : Int) + 1)) := Lib.hid (by
      unfold InH
      rw [show ((i : Int) + 1 - 1).toNat = i by omega]
      exact ⟨fun h => ⟨hr, h⟩, fun h => h.2⟩)
    have d1 : decide ((i : Int) + 1 ≥ 1) = true := decide_eq_true (by omega)
    have d2 : decide ((i : Int) + 1 ≤ (A.length : Int)) = true := decide_eq_true (by omega)
    clear h hc hr
    generalize S.getD i false = q at *
    generalize A.length = n at *
    go_enter Try.func21, Try.ntmps21
    go_wp2
    go_ret
    exact ⟨q, rfl, HIN.out, rfl⟩
  · obtain ⟨pi, ci, rfl⟩ := owns_shape h.ins
    have HNO : Hid (¬ InH A (fun x => S.getD x false = true) v) := Lib.hid (fun h => hr h.1)
    clear h
    generalize A.length = n at *
    by_cases h1 : 1 ≤ v
    · have d1 : decide (v ≥ 1) = true := decide_eq_true h1
      have d2 : decide (v ≤ (n : Int)) = false := decide_eq_false (by omega)
      clear hr
      go_enter Try.func21, Try.ntmps21
      go_wp2
      go_ret
      exact ⟨false, rfl, ⟨fun e => (by cases e), fun e => absurd e HNO.out⟩, rfl⟩
    · have d1 : decide (v ≥ 1) = false := decide_eq_false (by omega)
      clear hr
      go_enter Try.func21, Try.ntmps21
      go_wp2
      go_ret
      exact .inl ⟨rfl, HNO.out, rfl⟩

/-- How many of the first k are in. -/
def inCount (S : List Bool) (k : Nat) : Nat := (S.take k).countP (fun b => b)
theorem inCount_succ {S : List Bool} {k : Nat} (h : k < S.length) : inCount S (k + 1) = inCount S k + (if S.getD k false = true then 1 else 0) := by
  unfold inCount
  rw [List.take_add_one, List.getElem?_eq_getElem h, List.countP_append]
  cases hq : S[k] <;> simp [List.getD, h, hq]
theorem inCount_le (S : List Bool) (k : Nat) : inCount S k ≤ k := by
  unfold inCount
  exact Nat.le_trans List.countP_le_length (by rw [List.length_take]; omega)
set_option maxHeartbeats 2000000 in
theorem rlen_any (h : RefAt lo hi w p A S) :
    Calls Try.prog 23 #[p] w fun e w' => e = .returned (.int .i64 (inCount S A.length : Nat)) ∧ w = w' := by
  obtain ⟨g, va, vi, rfl, h⟩ := h
  have hsm := h.small
  have hsl := h.slen
  have x1 := h.box.cell 1
  simp only [List.getElem?_toArray, List.getElem?_cons_zero, List.getElem?_cons_succ] at x1
  have hform := fun h0 => h.formI h0
  obtain ⟨pi, ci, rfl⟩ := owns_shape h.ins
  have HFO := Lib.hid hform
  have HSL := Lib.hid hsl
  clear h hform hsl
  have hA : A.length ≤ 1048576 := hsm
  go_enter Try.func23, Try.ntmps23
  go_wp2
  go_loop [3, 4] (fun cv iv => ∃ k : Nat, k ≤ A.length ∧ iv = .int .i64 k ∧ cv = .int .i64 (inCount S k : Nat)) (fun _ iv => A.length - (intOf iv).toNat)
  case atStart => exact ⟨0, Nat.zero_le _, rfl, by simp [inCount]⟩
  case round =>
    obtain ⟨k, hk, rfl, rfl⟩ := hrel
    have hcb := inCount_le S k
    by_cases hlt : k < A.length
    · obtain ⟨gi, c, hv, h1, h2, hc⟩ := HFO.out (by omega)
      simp only [Value.slice.injEq] at hv
      obtain ⟨rfl, _, rfl⟩ := hv
      have c1 := hc k hlt
      have HST := Lib.hid (inCount_succ (S := S) (k := k) (by rw [HSL.out]; exact hlt))
      clear hc
      generalize inCount S k = m at *
      cases hq : S.getD k false with
      | true =>
        rw [hq] at c1 HST
        clear hq
        go_wp2
        go_round
        case rel => exact ⟨k + 1, by omega, by go_num, by rw [HST.out]; simp⟩
        case measure => simp [intOf]; omega
      | false =>
        rw [hq] at c1 HST
        clear hq
        go_wp2
        go_round
        case rel => exact ⟨k + 1, by omega, by go_num, by rw [HST.out]; simp⟩
        case measure => simp [intOf]; omega
    · obtain rfl : k = A.length := by omega
      go_wp2
      go_ret
      exact ⟨rfl, rfl⟩
end
end L
end Go.Proofs.Ytenmgkomffnjaaa
