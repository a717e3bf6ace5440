/- Contracts of dimacs.separates, dimacs.lines, strings.Lines and its closure, dimacs.content. -/
import Derived.Test.YtddmanphhfjngaaDoorNB
import Derived.Test.YtddmanphhfjngaaDoorRA
namespace Go.Proofs.YtddmanphhfjngaaDoor
open Go.RowKit PA RA
namespace L
open K

theorem sep_any (W : World) (r : Nat) : Calls Tryd.prog 46 #[.int .i32 r] W fun e w' => e = .returned (.bool (sepR r)) ∧ w' = W := by
  unfold sepR
  by_cases h1 : r = 32
  · subst h1
    go_enter Tryd.func46, Tryd.ntmps46
    go_wp2
    go_ret
    exact ⟨rfl, rfl⟩
  · by_cases h2 : r = 9
    · subst h2
      go_enter Tryd.func46, Tryd.ntmps46
      go_wp2
      go_ret
      exact ⟨rfl, rfl⟩
    · have e1 : (r == 32) = false := by simpa using h1
      have e2 : (r == 9) = false := by simpa using h2
      have f1 : ((r : Int) == 32) = false := beq_eq_false_iff_ne.2 (by omega)
      have f2 : ((r : Int) == 9) = false := beq_eq_false_iff_ne.2 (by omega)
      rw [e1, e2]
      clear h1 h2 e1 e2
      by_cases h3 : r = 10
      · subst h3
        go_enter Tryd.func46, Tryd.ntmps46
        go_wp2
        go_ret
        exact ⟨rfl, rfl⟩
      · have f3 : ((r : Int) == 10) = false := beq_eq_false_iff_ne.2 (by omega)
        have e3 : (r == 10) = false := by simpa using h3
        rw [e3]
        clear e3 h3
        go_enter Tryd.func46, Tryd.ntmps46
        go_wp2
        go_ret
        exact ⟨rfl, rfl⟩
theorem sep_at (w : World) : PredAt Tryd.prog 46 #[] encR sepR w := fun W r _ => (sep_any W r).mono fun e w' h => ⟨h.1, 0, by rw [h.2]; rfl⟩

/-- How many lines. -/
def linesN (l : List UInt8) : Nat := l.count 10 + if l = [] ∨ l.getLast? = some 10 then 0 else 1
theorem linesN_eq (l : List UInt8) : linesN l = (lns l).length := by
  unfold linesN lns
  rw [lgo_len]
  by_cases h : l = [] <;> simp [h]
theorem suffix_last (l : List UInt8) : Lib.hasSuffix l [10] = decide (l.getLast? = some 10) := by
  unfold Lib.hasSuffix
  rw [Bool.eq_iff_iff, List.isSuffixOf_iff_suffix, decide_eq_true_iff]
  constructor
  · rintro ⟨t, rfl⟩; simp
  · intro h
    obtain ⟨t, rfl⟩ := List.getLast?_eq_some_iff.1 h
    exact ⟨t, rfl⟩

set_option maxHeartbeats 1000000 in
theorem lines_any (s : ByteArray) (w : World) (hs : s.size ≤ 9223372036854775806) :
    Calls Tryd.prog 37 #[.string s] w fun e w' => e = .returned (.int .i64 (linesN s.data.toList)) ∧ w = w' := by
  have hcnt : s.data.toList.count 10 ≤ s.size := by rw [Lib.size_eq]; exact List.count_le_length
  have hc := Tryd.strings_Count_one s 10 w
  have hq := Tryd.strings_HasSuffix s ⟨#[10]⟩ w (by omega)
  rw [show (⟨#[10]⟩ : ByteArray).data.toList = [10] from rfl, suffix_last] at hq
  unfold Lib.countByte at hc
  unfold linesN
  by_cases h0 : s.data.toList = []
  · have h1 : s.toList = [] := by rw [ByteArray.toList_eq]; exact h0
    have h2 : s.toList.isEmpty = true := by rw [h1]; rfl
    have h3 : (!s.toList.isEmpty) = false := by rw [h2]; rfl
    rw [if_pos (.inl h0), Nat.add_zero]
    generalize s.data.toList.count 10 = n at *
    clear h0
    go_enter Tryd.func37, Tryd.ntmps37
    go_wp2_with fail
    refine hc.mono ?_
    rintro e w1 ⟨rfl, rfl⟩
    clear hc hq
    go_wp2
    go_ret
    exact ⟨rfl, rfl⟩
  · have h1 : ¬ s.toList = [] := by rw [ByteArray.toList_eq]; exact h0
    have h2 : s.toList.isEmpty = false := by simpa using h1
    have h3 : (!s.toList.isEmpty) = true := by rw [h2]; rfl
    by_cases hl : s.data.toList.getLast? = some 10
    · rw [if_pos (.inr hl), Nat.add_zero]
      have hd : decide (s.data.toList.getLast? = some 10) = true := by simpa using hl
      rw [hd] at hq
      generalize s.data.toList.count 10 = n at *
      clear h0 hl hd
      go_enter Tryd.func37, Tryd.ntmps37
      go_wp2_with fail
      refine hc.mono ?_
      rintro e w1 ⟨rfl, rfl⟩
      clear hc
      go_wp2_with fail
      refine hq.mono ?_
      rintro e w2 ⟨rfl, rfl⟩
      clear hq
      go_wp2
      go_ret
      exact ⟨rfl, rfl⟩
    · rw [if_neg (fun h => h.elim h0 hl)]
      have hd : decide (s.data.toList.getLast? = some 10) = false := by simpa using hl
      rw [hd] at hq
      generalize s.data.toList.count 10 = n at *
      clear h0 hl hd
      go_enter Tryd.func37, Tryd.ntmps37
      go_wp2_with fail
      refine hc.mono ?_
      rintro e w1 ⟨rfl, rfl⟩
      clear hc
      go_wp2_with fail
      refine hq.mono ?_
      rintro e w2 ⟨rfl, rfl⟩
      clear hq
      go_wp2
      go_ret
      exact ⟨ret_int (by omega), rfl⟩

theorem linesfn_any (s : ByteArray) (w : World) : Calls Tryd.prog 44 #[.string s] w fun e w' => e = .returned (.func (.func 55) #[] #[.pointer (some ⟨w.heap.size, 0, none⟩)]) ∧ w' = w.alloc (.cells #[.string s] 9) := by
  go_enter Tryd.func44, Tryd.ntmps44
  go_wp2
  go_ret
  exact ⟨rfl, rfl⟩
theorem content_any (s : ByteArray) (w : World) : Calls Tryd.prog 35 #[.string s] w fun e w' => e = .returned (.func (.func 43) #[] #[.pointer (some ⟨w.heap.size, 0, none⟩)]) ∧ w' = w.alloc (.cells #[.string s] 9) := by
  go_enter Tryd.func35, Tryd.ntmps35
  go_wp2
  go_ret
  exact ⟨rfl, rfl⟩
end L
end Go.Proofs.YtddmanphhfjngaaDoor
