/- The laws' small functions: CopyNums, is, known, with, of, trim. -/
import Derived.Test.YtmplmpiljjilnaaDoorQK
import Derived.Deep.Heap
import Derived.Laws.OwnMore
namespace Go.Proofs.YtmplmpiljjilnaaDoor
open Go.RowKit
open L
namespace W9
set_option maxRecDepth 100000

abbrev uv (n : Nat) : Value := .int .u64 (n : Int)
theorem info24 : (Tryd.prog.info? 24).map (fun i => (i.zero, i.size, i.bytes)) = some (some (.int .u64 0), 1, 8) := by kernel_rfl
theorem take_succ9 (zs : List Nat) (k : Nat) (hk : k < zs.length) : zs.take (k + 1) = zs.take k ++ [zs.getD k 0] := by
  rw [List.take_add_one, List.getElem?_eq_getElem hk]; simp [List.getD, hk]
theorem owns_words {w : World} {base : Nat} {v : Value} {l : List Nat} (h : w.ownsRow base 24 1 v l.length (l.map uv)) (hm : l.length ≤ 1000000) (hx : ∀ x ∈ l, x < 18446744073709551616) : Words w v l := by
  rcases h.2 with ⟨rfl, h0⟩ | ⟨g, cap, cur, rfl, hb, hg, hn, hcap, hsz, htake⟩
  · exact ⟨none, 0, by rw [h0], by omega, hm, hx, fun h => by omega⟩
  · refine ⟨some ⟨g, 0, none⟩, cap, rfl, hn, hm, hx, fun _ => ⟨g, 0, rfl, fun j hj => ?_⟩⟩
    have := h.cellAt j (by omega)
    rw [Nat.zero_add, this]
    simp [List.getD, hj]

set_option maxHeartbeats 1000000 in
theorem copyN_any (v : Value) (l : List Nat) (w : World) (h : Words w v l) :
    Calls Tryd.prog 14 #[v] w fun e w' => ∃ v', e = .returned v' ∧ Words w' v' l ∧ Below w.heap.size w w' := by
  obtain ⟨p, c, rfl, hg, hm, hx, hc⟩ := h
  obtain ⟨i0, hi, hz0, hz1, hz2⟩ := info_parts info24
  have HX := Lib.hid hx
  clear hx
  go_enter Tryd.func14, Tryd.ntmps14
  go_wp2
  go_loopw [3, 4] (fun o i wr => ∃ k : Nat, k ≤ l.length ∧ i = .int .i64 k ∧ wr.ownsRow w.heap.size 24 1 o k ((l.take k).map uv) ∧ Below w.heap.size w wr) (fun _ i _ => l.length - (intOf i).toNat)
  case atStart => exact ⟨0, Nat.zero_le _, rfl, World.ownsRow_nil _ _ _ _, Below.refl _ _⟩
  case round =>
    obtain ⟨k, hk, rfl, hown, hb⟩ := hrel
    by_cases hlt : k < l.length
    · obtain ⟨b1, o1, rfl, e1⟩ := hc (by omega)
      have d1 := (hb.cell (p := ⟨b1, o1 + k, none⟩) (World.block_lt_of_cell? _ _ (e1 k hlt))).trans (e1 k hlt)
      have HT := Lib.hid (take_succ9 l k hlt)
      clear hc e1
      generalize hx1 : l.getD k 0 = x1 at d1 HT
      have HX1 := Lib.hid hx1
      clear hx1
      go_wp2_with (at_builtin; refine wpList_append_own _ rfl _ _ 22 rfl w.heap.size 24 i0 (.int .u64 0) 1 8 Tryd.underlying22 hi hz0 hz1 hz2 rfl (by decide) _ _ _ rfl (hown.alloc _) ⟨wr.heap.size, 0, none⟩ 1 1 [uv x1] rfl rfl ?c1 ?c2 ?c3 ?c4 ?c5 ?_)
      case c1 =>
        intro j u hj
        match j, hj with
        | 0, hj => simp at hj; subst hj; simp [Addr.add]
      case c2 => intro u hu; simp at hu; subst hu; rfl
      case c3 => unfold maxLen; omega
      case c4 => omega
      case c5 => have := hb.size; simp; omega
      intro v' w1 hown' hgrow _
      have hlt2 := fun k hk => (hown.lt k hk).1
      have hb' := (hb.alloc hb.size (.cells #[uv x1] 24)).grown hgrow (by have := hb.size; simp; omega) hlt2
      clear hown hgrow
      go_wp2
      go_roundw
      case rel => exact ⟨k + 1, by omega, by go_num, by rw [HT.out]; simpa using hown', hb'⟩
      case measure => simp [intOf]; omega
    · have hkl : k = l.length := by omega
      subst hkl
      go_wp2
      go_ret
      exact ⟨_, rfl, owns_words (by simpa using hown) hm HX.out, hb⟩

/-! Literal lists of words. -/
theorem words_lit (w : World) (l : List Nat) (T : TypeId) (hl : l.length ≤ 1000000) (hx : ∀ x ∈ l, x < 18446744073709551616) : Words (w.alloc (.cells (l.map uv).toArray T)) (.slice (some ⟨w.heap.size, 0, none⟩) l.length l.length) l := by
  refine ⟨_, _, rfl, Nat.le_refl _, hl, hx, fun h0 => ⟨w.heap.size, 0, rfl, fun j hj => ?_⟩⟩
  rw [World.cell?_alloc_at _ _ _ _ (by rfl)]
  simp [hj]
theorem words_nil (w : World) (c : Nat) : Words w (.slice none 0 c) [] := ⟨none, c, rfl, Nat.zero_le _, by decide, by simp, fun h => by simp at h⟩
theorem words1 (w : World) (T : TypeId) {x : Nat} (hx : x < 18446744073709551616) : Words (w.alloc (.cells #[uv x] T)) (.slice (some ⟨w.heap.size, 0, none⟩) 1 1) [x] :=
  words_lit w [x] T (by simp) (by simpa using hx)
theorem words2 (w : World) (T : TypeId) {x y : Nat} (hx : x < 18446744073709551616) (hy : y < 18446744073709551616) : Words (w.alloc (.cells #[uv x, uv y] T)) (.slice (some ⟨w.heap.size, 0, none⟩) 2 2) [x, y] :=
  words_lit w [x, y] T (by simp) (by simp [hx, hy])
theorem words3 (w : World) (T : TypeId) {x y z : Nat} (hx : x < 18446744073709551616) (hy : y < 18446744073709551616) (hz : z < 18446744073709551616) : Words (w.alloc (.cells #[uv x, uv y, uv z] T)) (.slice (some ⟨w.heap.size, 0, none⟩) 3 3) [x, y, z] :=
  words_lit w [x, y, z] T (by simp) (by simp [hx, hy, hz])

def isB (n o : Nat) (W : Int) (l : List Nat) : Bool := (apV o W l == n) && (apE o W l == 0)
set_option maxHeartbeats 1000000 in
theorem is_any (n o : Nat) (W : Int) (l : List Nat) (v : Value) (w : World) (ho : o < 256) (hT : OpTab w) (hv : Words w v l) :
    Calls Tryd.prog 22 #[uv n, .int .u8 (o : Int), .int .i64 W, v] w fun e w' => e = .returned (.bool (isB n o W l)) ∧ Below w.heap.size w w' := by
  have C := Lib.hid (apply_any o W l v w ho hT hv)
  unfold isB
  have e1 : (((apV o W l : Nat) : Int) == (n : Int)) = (apV o W l == n) := by rw [Bool.eq_iff_iff]; simp; omega
  clear hT hv
  generalize apV o W l = x at *
  generalize apE o W l = y at *
  generalize hq : (x == n) = q at *
  generalize hr : (y == 0) = r at *
  have HQ := Lib.hid hq
  clear hq
  cases q <;> cases r <;> (
    go_enter Tryd.func22, Tryd.ntmps22
    go_wp2_with (go_at_call 13; refine (C.out).mono ?_; rintro e w2 ⟨rfl, hb⟩)
    go_ret
    exact ⟨K.ret_bool (by simp), hb⟩)

set_option maxHeartbeats 1000000 in
theorem known9_any (w : World) (hT : OpTab w) :
    Calls Tryd.prog 12 #[] w fun e w' => e = .returned (.bool true) ∧ Below w.heap.size w w' := by
  have C1 := is_any 3 4 3 [5, 6] _ _ (by decide) (hT.below (below_box w (.cells #[uv 5, uv 6] 24))) (words2 w 24 (by decide) (by decide))
  rw [show isB 3 4 3 [5, 6] = true by decide +kernel] at C1
  have HC1 := Lib.hid C1
  have C2 := Lib.hid (fun w1 (hb : Below w.heap.size w w1) => is_any 7 14 3 [6, 1] _ _ (by decide) ((hT.below hb).below (below_box w1 (.cells #[uv 6, uv 1] 24))) (words2 w1 24 (by decide) (by decide)))
  have e7 : isB 7 14 3 [6, 1] = true := by decide +kernel
  rw [e7] at C2
  clear C1 e7 hT
  go_enter Tryd.func12, Tryd.ntmps12
  go_wp2_with (go_at_call 22; refine (HC1.out).mono ?_; rintro e w2 ⟨rfl, hb⟩; have HB := Lib.hid ((below_box w _).trans (hb.mono (by simp))); clear hb; refine Hid.out ?_)
  have C3 := Lib.hid (C2.out _ HB.out)
  clear C2
  refine Lib.hid ?_
  go_wp2_with (go_at_call 22; refine (C3.out).mono ?_; rintro e w3 ⟨rfl, hb⟩)
  go_ret
  exact ⟨rfl, (HB.out.alloc HB.out.size _).trans (hb.mono (by have := HB.out.size; simp; omega))⟩
end W9
end Go.Proofs.YtmplmpiljjilnaaDoor
