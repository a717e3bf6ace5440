/- Contracts of three and known. -/
import Derived.Test.YtbmpjglplmnlnaaXG
namespace Go.Proofs.Ytbmpjglplmnlnaa
open Go.RowKit
namespace K
theorem res_cell {fn : Func} {t : Tmp} {T : TypeId} (h : fn.results = #[.cell t T]) {tmps : Array Value} {P : Program} {w : World} {a : Addr} {v : Value} (ht : tmps.getD t undef = .pointer (some a)) (hl : (loadVar T a).run P w = .ok v w) : (results fn tmps).run P w = .ok v w := by
  have ht' : tmps[t]?.getD undef = .pointer (some a) := by simpa using ht
  simp [results, h, ht', hl, asAddr]
theorem res_cell_tmp {fn : Func} {t u : Tmp} {T : TypeId} (h : fn.results = #[.cell t T, .tmp u]) {tmps : Array Value} {P : Program} {w : World} {a : Addr} {v : Value} (ht : tmps.getD t undef = .pointer (some a)) (hl : (loadVar T a).run P w = .ok v w) : (results fn tmps).run P w = .ok (.tuple #[v, tmps.getD u undef]) w := by
  have ht' : tmps[t]?.getD undef = .pointer (some a) := by simpa using ht
  simp [results, h, ht', hl, asAddr]
theorem cell_old {w : World} {o : Obj} {p : Addr} {x : Option Value} (h : p.block < w.heap.size) (hx : w.cell? p = x) : (w.alloc o).cell? p = x := (((Below.refl _ w).alloc (Nat.le_refl _) o).cell h).trans hx
theorem cell_new {w : World} {cs : Array Value} {T : TypeId} {b j : Nat} {x : Option Value} (h : b = w.heap.size) (hx : cs[j]? = x) : (w.alloc (.cells cs T)).cell? ⟨b, j, none⟩ = x := (World.cell?_alloc_at _ _ _ _ (by rw [h])).trans hx
end K
namespace L
open K

theorem three_any (w : World) :
    Calls Try.prog 21 #[] w fun e w' => ∃ v, e = .returned (.agg #[.int .i64 3, v]) ∧ Lists w' v [[1, 2], [-1, 3], [-2, -3]] ∧ Below w.heap.size w w' := by
  go_enter Try.func21, Try.ntmps21
  go_wp2
  (try simp only [Exit.inBlock, Exit.then])
  refine bodyPost_ret (res_cell rfl rfl (by simp [go_sem]; rfl)) rfl ?_
  refine ⟨_, rfl, ?_, ?_⟩
  · refine ⟨_, 3, rfl, by simp, by simp, fun _ => ⟨w.heap.size + 1 + 1 + 1 + 1, 0, rfl, fun j hj => ?_⟩⟩
    have h3 : j = 0 ∨ j = 1 ∨ j = 2 := by simp at hj; omega
    rcases h3 with rfl | rfl | rfl
    · refine ⟨.slice (some ⟨w.heap.size + 1, 0, none⟩) 2 2, (by repeat (first | exact cell_new (by simp) rfl | refine cell_old (by simp <;> omega) ?_)), _, 2, rfl, by simp, by simp, fun _ => ⟨_, _, rfl, fun i hi => ?_⟩⟩
      have h2 : i = 0 ∨ i = 1 := by simp at hi; omega
      rcases h2 with rfl | rfl <;> (repeat (first | exact cell_new (by simp) rfl | refine cell_old (by simp <;> omega) ?_))
    · refine ⟨.slice (some ⟨w.heap.size + 1 + 1, 0, none⟩) 2 2, (by repeat (first | exact cell_new (by simp) rfl | refine cell_old (by simp <;> omega) ?_)), _, 2, rfl, by simp, by simp, fun _ => ⟨_, _, rfl, fun i hi => ?_⟩⟩
      have h2 : i = 0 ∨ i = 1 := by simp at hi; omega
      rcases h2 with rfl | rfl <;> (repeat (first | exact cell_new (by simp) rfl | refine cell_old (by simp <;> omega) ?_))
    · refine ⟨.slice (some ⟨w.heap.size + 1 + 1 + 1, 0, none⟩) 2 2, (by repeat (first | exact cell_new (by simp) rfl | refine cell_old (by simp <;> omega) ?_)), _, 2, rfl, by simp, by simp, fun _ => ⟨_, _, rfl, fun i hi => ?_⟩⟩
      have h2 : i = 0 ∨ i = 1 := by simp at hi; omega
      rcases h2 with rfl | rfl <;> (repeat (first | exact cell_new (by simp) rfl | refine cell_old (by simp <;> omega) ?_))
  · exact (((((Below.refl _ _).alloc (Nat.le_refl _) _).alloc (by simp) _).alloc (by simp; omega) _).alloc (by simp; omega) _).alloc (by simp; omega) _

theorem three_ok : checkF 3 [[1, 2], [-1, 3], [-2, -3]] = 0 ∧ firstI [true, false, true] [[1, 2], [-1, 3], [-2, -3]] = -1 := by decide
theorem three_i64 : ∀ l ∈ [[1, 2], [-1, 3], [-2, -3]], ∀ x ∈ (l : List Int), I64 x := by simp [I64]

set_option maxHeartbeats 1000000 in
theorem known_any (w : World) : Calls Try.prog 12 #[] w fun e w' => e = .returned (.bool true) ∧ Below w.heap.size w w' := by
  go_enter Try.func12, Try.ntmps12
  go_wp2_with fail
  refine (three_any _).mono ?_
  rintro e w1 ⟨v, rfl, hL, hb⟩
  have hB := bools_lit w1 [true, false, true] #[.bool true, .bool false, .bool true] 3 w1.heap.size 4 rfl rfl rfl (by simp)
  have hL1 := hL.below ((Below.refl _ _).alloc (Nat.le_refl _) (.cells #[.bool true, .bool false, .bool true] 4))
  have hf := first_any 3 v _ _ _ _ (by simp [I64]) three_i64 hL1 hB
  have e1 : firstF 3 [[1, 2], [-1, 3], [-2, -3]] [true, false, true] = (-1, 0) := by decide
  rw [e1] at hf
  clear hL hL1 hB
  go_wp2_with fail
  refine hf.mono ?_
  rintro e w2 ⟨rfl, hb2⟩
  have hb3 := hb.trans (((Below.refl w1.heap.size w1).alloc (Nat.le_refl _) (.cells #[.bool true, .bool false, .bool true] 4)).trans (hb2.mono (by simp)) |>.mono hb.size)
  clear hf hb hb2
  go_wp2_with fail
  refine (three_any _).mono ?_
  rintro e w3 ⟨v3, rfl, hL3, hb4⟩
  have hc := fcheck_any 3 v3 _ _ (by simp [I64]) three_i64 hL3
  rw [three_ok.1] at hc
  go_wp2_with fail
  refine hc.mono ?_
  rintro e w4 ⟨rfl, hb5⟩
  go_wp2
  go_ret
  exact ⟨rfl, hb3.trans ((hb4.trans (hb5.mono hb4.size)).mono hb3.size)⟩
end L
end Go.Proofs.Ytbmpjglplmnlnaa
