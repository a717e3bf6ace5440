/- Contract of known: the clause of three literals. -/
import Derived.Test.YtfpojpiajggncaaI
namespace Go.Proofs.Ytfpojpiajggncaa
open Go.RowKit
namespace L
open K

theorem norm_known : normR [3, -1, 3, 2] = some [-1, 2, 3] := by
  simp [normR, sortI, List.mergeSort, List.MergeSort.Internal.splitInTwo, lessB, av, normGo]
theorem ints_lit (w : World) (l : List Int) (cs : Array Value) (n b : Nat) (hb : b = w.heap.size) (h : cs = (l.map (Value.int .i64)).toArray) (hn : n = l.length) (hm : l.length * 8 ≤ 140737488351232) : Ints (w.alloc (.cells cs 3)) (.slice (some ⟨b, 0, none⟩) n n) l := by
  subst h; subst hn; subst hb
  refine ⟨_, l.length, rfl, Nat.le_refl _, hm, fun _ => ⟨_, _, rfl, fun j hj => ?_⟩⟩
  rw [World.cell?_alloc_at _ _ _ _ rfl]
  simp [List.getD, hj]
theorem bools_lit (w : World) (l : List Bool) (cs : Array Value) (n b : Nat) (T : TypeId) (hb : b = w.heap.size) (h : cs = (l.map Value.bool).toArray) (hn : n = l.length) (hm : l.length ≤ 140737488351232) : Bools (w.alloc (.cells cs T)) (.slice (some ⟨b, 0, none⟩) n n) l := by
  subst h; subst hn; subst hb
  refine ⟨_, l.length, rfl, Nat.le_refl _, hm, fun _ => ⟨_, _, rfl, fun j hj => ?_⟩⟩
  rw [World.cell?_alloc_at _ _ _ _ rfl]
  simp [List.getD, hj]

set_option maxHeartbeats 2000000 in
theorem known_any (w : World) : Calls Try.prog 12 #[] w fun e w' => e = .returned (.bool true) ∧ Below w.heap.size w w' := by
  go_enter Try.func12, Try.ntmps12
  go_wp2_with fail
  have ha := (Below.refl w.heap.size w).alloc (Nat.le_refl _) (.cells #[.int .i64 3, .int .i64 (-1), .int .i64 3, .int .i64 2] 3)
  refine (norm_any _ [3, -1, 3, 2] _ (by intro x hx; unfold I64; simp at hx; omega) (ints_lit w [3, -1, 3, 2] _ 4 _ rfl rfl rfl (by decide))).mono ?_
  rintro e w1 ⟨v', rfl, hI, hb⟩
  rw [norm_known] at hI ⊢
  have hb1 := ha.trans (hb.mono (by simp))
  clear ha hb
  go_wp2_with fail
  have ha2 := (Below.refl w1.heap.size w1).alloc (Nat.le_refl _) (.cells #[.int .i64 (-1), .int .i64 2, .int .i64 3] 3)
  refine (equal_any _ _ [-1, 2, 3] [-1, 2, 3] _ (hI.below ha2) (ints_lit w1 [-1, 2, 3] _ 3 _ rfl rfl rfl (by decide))).mono ?_
  rintro e w2 ⟨rfl, hb⟩
  have hb2 := hb1.trans ((ha2.trans (hb.mono (by simp))).mono hb1.size)
  clear ha2 hb hI hb1
  go_wp2_with fail
  have ha3 := (Below.refl w2.heap.size w2).alloc (Nat.le_refl _) (.cells #[.bool false, .bool true] 4)
  have hB := (bools_lit w2 [false, true] _ 2 _ 4 rfl rfl rfl (by decide)).below ((Below.refl (w2.alloc (.cells #[.bool false, .bool true] 4)).heap.size _).alloc (Nat.le_refl _) (.cells #[.int .i64 (-1)] 3))
  have hK := holds_any _ _ [false, true] [-1] _ (by intro x hx; unfold I64; simp at hx; omega) hB (ints_lit (w2.alloc (.cells #[.bool false, .bool true] 4)) [-1] _ 1 (w2.heap.size + 1) (by simp) rfl rfl (by decide))
  rw [show holdsB [false, true] [-1] = true from by decide] at hK
  refine hK.mono ?_
  rintro e w3 ⟨rfl, rfl⟩
  clear hB hK
  go_wp2_with fail
  have hC := check_any 3 _ [1, -3] _ (by unfold I64; omega) (by intro x hx; unfold I64; simp at hx; omega) (ints_lit ((w2.alloc (.cells #[.bool false, .bool true] 4)).alloc (.cells #[.int .i64 (-1)] 3)) [1, -3] _ 2 (w2.heap.size + 1 + 1) (by simp) rfl rfl (by decide))
  rw [show checkE 3 [1, -3] = 0 from by decide] at hC
  refine hC.mono ?_
  rintro e w3 ⟨rfl, rfl⟩
  clear hC
  go_wp2
  go_ret
  exact ⟨rfl, hb2.trans (((ha3.alloc (by simp) _).alloc (by simp; omega) _).mono hb2.size)⟩
end L
end Go.Proofs.Ytfpojpiajggncaa
