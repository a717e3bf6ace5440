/- A map from ints to bools of the call's own; contract of the reference's unit. -/
import Derived.Test.YtoffhaamkhfdeaaMA
import Derived.Test.YtoffhaamkhfdeaaUE
namespace Go.Proofs.Ytoffhaamkhfdeaa
open Go.RowKit Go.Conc
open Go.ChangeMaps Go.MapKept Go.Maps
namespace K
open L

theorem own_exact {w : World} {P : Program} {k : TypeId} {R : Value → Option (DataW Value × List MemPlace)} {b N : Nat} {D : DataW Value} (h : w.ownsMap P k R b N D) : w.ownsMap P k R b (Maps.size D) D := by
  obtain ⟨es, clock, hb, F, hs, rfl⟩ := h
  exact ⟨es, clock, hb, F, by simp [Maps.size, length_sorted], rfl⟩

/-- Block b is a set of ints, as a map to bools. -/
def MapB (w : World) (b sz : Nat) (S : Int → Bool) : Prop := ∃ D : DataW Value, w.ownsMap Try.prog 3 heldR b sz D ∧ Maps.size D = sz ∧ ∀ k, I64 k → D.atKey (.int .i64 k) (.held (.bool false)) = .held (.bool (S k)) ∧ Maps.has D (.int .i64 k) = S k

theorem zeroBool (W : World) : (zeroValue 4).run Try.prog W = .ok (.bool false) W := by kernel_rfl
section
variable {w w' : World} {b sz : Nat} {S : Int → Bool}
theorem MapB.made (w : World) : MapB (w.alloc (.map #[] 0)) w.heap.size 0 (fun _ => false) := ⟨_, World.ownsMap_made w _ _ _, rfl, fun _ _ => ⟨rfl, rfl⟩⟩
theorem MapB.lt (h : MapB w b sz S) : b < w.heap.size := by obtain ⟨D, h, _⟩ := h; exact h.lt
theorem MapB.of_block (h : MapB w b sz S) (e : w'.heap[b]? = w.heap[b]?) : MapB w' b sz S := by
  obtain ⟨D, ⟨es, clock, hb, F, hs, hD⟩, h2⟩ := h
  exact ⟨D, ⟨es, clock, e.trans hb, F, hs, hD⟩, h2⟩
theorem MapB.below (h : MapB w b sz S) (hb : Below w.heap.size w w') : MapB w' b sz S := h.of_block (hb.block b h.lt)
theorem MapB.look (h : MapB w b sz S) {k : Int} (hk : I64 k) : (Instr.lookup 62 (.map (some b)) (.int .i64 k) false).run Try.prog w = .ok (.bool (S k)) w := by
  obtain ⟨D, h, _, h2⟩ := h
  obtain ⟨v, ps, hr, hv⟩ := h.lookup keyI Try.underlying62 (zeroBool w) (zd := .held (.bool false)) (zp := []) rfl (key_int hk)
  rw [(h2 k hk).1] at hv
  simp only [heldR, Option.some.injEq, Prod.mk.injEq, DataW.held.injEq] at hv
  rw [hr, hv.1]
theorem MapB.len (h : MapB w b sz S) (ty : TypeId) : (Builtin.len_ #[62] ty #[.map (some b)]).run Try.prog w = .ok (.int .i64 sz) w := by
  obtain ⟨D, h, hs, _⟩ := h
  rw [h.len Try.underlying62 ty, hs]
theorem MapB.store (h : MapB w b sz S) (hn : sz < maxLen) {k : Int} (hk : I64 k) :
    ∃ w', (Instr.mapUpdate 62 (.map (some b)) (.int .i64 k) (.bool true)).run Try.prog w = .ok () w' ∧ MapB w' b (if S k then sz else sz + 1) (U.upd S k true) ∧ w.grownBy w' (some b) := by
  obtain ⟨D, h, hs, h2⟩ := h
  have ht := h.tidy keyI
  obtain ⟨w', hr, hm, hg⟩ := h.update keyI Try.underlying62 hn (key_int hk) (val := .bool true) (d := .held (.bool true)) (ps := []) rfl
  have hsz : Maps.size (D.put (.int .i64 k) (.held (.bool true))) = if S k then sz else sz + 1 := by
    rw [Go.Maps.size_put ht, (h2 k hk).2, hs]
  have hm' := own_exact hm
  rw [hsz] at hm'
  refine ⟨w', hr, ⟨_, hm', hsz, fun k' hk' => ?_⟩, hg⟩
  by_cases e : k' = k
  · subst e
    rw [U.upd_same]
    exact ⟨Go.Maps.atKey_put_same h.isMap (by simp [WideAt.IsKeyLit]) _ _, Go.Maps.has_put_same h.isMap (by simp [WideAt.IsKeyLit]) _⟩
  · rw [U.upd_ne e, Go.Maps.atKey_put_other (by simpa using e), Go.Maps.has_put_other (by simpa using e)]
    exact h2 k' hk'
end
end K
namespace L
open K

theorem unitP_at {S : Int → Bool} {last : Int} {l : List Int} {m : Nat} (h : m < l.length) :
    U.unitP S last (l.drop m) = if S (-(l.getD m 0)) || l.getD m 0 == last then U.unitP S last (l.drop (m + 1)) else if S (l.getD m 0) || last != 0 then (0, true) else U.unitP S (l.getD m 0) (l.drop (m + 1)) := by
  have e : l.drop m = l.getD m 0 :: l.drop (m + 1) := by
    rw [List.drop_eq_getElem_cons h]
    simp [List.getD, h]
  rw [e]
  rfl

set_option maxHeartbeats 2000000 in
theorem runit_any {w : World} {b sz : Nat} {S : Int → Bool} (h : MapB w b sz S) (v : Value) (c : List Int) (hc : Ints w v c) (hI : ∀ x ∈ c, I64 x ∧ I64 (-x)) :
    Calls Try.prog 42 #[.map (some b), v] w fun e w' => e = .returned (.tuple #[.int .i64 (U.unitP S 0 c).1, .bool (U.unitP S 0 c).2]) ∧ w = w' := by
  obtain ⟨pp, cap, rfl, hcap, hlim, hcell⟩ := hc
  have HM := Lib.hid h
  have HI := Lib.hid hI
  obtain ⟨r, er⟩ : ∃ r, U.unitP S 0 c = r := ⟨_, rfl⟩
  rw [er]
  have HR := Lib.hid er
  clear h hI er
  go_enter Try.func42, Try.ntmps42
  go_wp2
  go_loop [6, 7] (fun la i => ∃ (k : Nat) (last : Int), k ≤ c.length ∧ i = .int .i64 k ∧ la = .int .i64 last ∧ U.unitP S 0 c = U.unitP S last (c.drop k)) (fun _ i => c.length - (intOf i).toNat)
  case atStart => exact ⟨0, 0, Nat.zero_le _, rfl, rfl, rfl⟩
  case round =>
    obtain ⟨k, last, hk, rfl, rfl, heq⟩ := hrel
    have HE := Lib.hid heq
    clear heq
    by_cases hlt : k < c.length
    · have hlt' : (k : Int) < (c.length : Int) := by omega
      obtain ⟨b1, o1, rfl, e1⟩ := hcell (by omega)
      have d1 := e1 k hlt
      clear hcell e1
      have HST := Lib.hid (unitP_at (S := S) (last := last) hlt)
      obtain ⟨x, ex⟩ : ∃ x, c.getD k 0 = x := ⟨_, rfl⟩
      have hxI := HI.out x (by rw [← ex]; exact U.getD_mem hlt)
      rw [ex] at d1 HST
      have hneg : IntKind.i64.wrap (-x) = -x := by have := hxI.2; unfold I64 at this; simp only [IntKind.wrap_i64]; omega
      have hl1 := HM.out.look hxI.2
      have hl2 := HM.out.look hxI.1
      clear ex hxI
      by_cases a1 : S (-x) = true
      · rw [a1] at hl1
        have HN : Hid (U.unitP S 0 c = U.unitP S last (c.drop (k + 1))) := Lib.hid (by rw [HE.out, HST.out, a1]; rfl)
        clear a1
        go_wp2
        go_round
        case rel => exact ⟨k + 1, last, by omega, by go_num, rfl, HN.out⟩
        case measure => simp [intOf]; omega
      · have a1 : S (-x) = false := by simpa using a1
        rw [a1] at hl1
        by_cases a2 : x = last
        · have e2 : (x == last) = true := by simp [a2]
          have HN : Hid (U.unitP S 0 c = U.unitP S last (c.drop (k + 1))) := Lib.hid (by rw [HE.out, HST.out, a1, e2]; rfl)
          clear a1 a2
          go_wp2
          go_round
          case rel => exact ⟨k + 1, last, by omega, by go_num, rfl, HN.out⟩
          case measure => simp [intOf]; omega
        · have e2 : (x == last) = false := by simp [a2]
          by_cases a3 : S x = true
          · rw [a3] at hl2
            have HN : Hid (U.unitP S 0 c = (0, true)) := Lib.hid (by rw [HE.out, HST.out, a1, e2, a3]; rfl)
            clear a1 a2 a3
            go_wp2
            go_ret2
            exact ⟨by rw [← HR.out, HN.out]; rfl, rfl⟩
          · have a3 : S x = false := by simpa using a3
            rw [a3] at hl2
            by_cases a4 : last = 0
            · have e4 : (last != (0 : Int)) = false := by simp [a4]
              have HN : Hid (U.unitP S 0 c = U.unitP S x (c.drop (k + 1))) := Lib.hid (by rw [HE.out, HST.out, a1, e2, a3, e4]; rfl)
              clear a1 a2 a3 a4
              go_wp2
              go_round
              case rel => exact ⟨k + 1, x, by omega, by go_num, rfl, HN.out⟩
              case measure => simp [intOf]; omega
            · have e4 : (last != (0 : Int)) = true := by simp [a4]
              have HN : Hid (U.unitP S 0 c = (0, true)) := Lib.hid (by rw [HE.out, HST.out, a1, e2, a3, e4]; rfl)
              clear a1 a2 a3 a4
              go_wp2
              go_ret2
              exact ⟨by rw [← HR.out, HN.out]; rfl, rfl⟩
    · have hlt' : ¬ (k : Int) < (c.length : Int) := by omega
      have HN : Hid (U.unitP S 0 c = (last, decide (last ≠ 0))) := Lib.hid (by
        rw [HE.out, show k = c.length by omega, List.drop_length]; rfl)
      clear hcell
      go_wp2
      go_ret2
      refine ⟨?_, rfl⟩
      rw [← HR.out, HN.out]
      by_cases a : last = 0
      · subst a; rfl
      · simp [a, bne_iff_ne]
end L
end Go.Proofs.Ytoffhaamkhfdeaa
