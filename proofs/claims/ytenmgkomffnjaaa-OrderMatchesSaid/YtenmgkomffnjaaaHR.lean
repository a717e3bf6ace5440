/- The heap's Copy. -/
import Derived.Test.YtenmgkomffnjaaaHQ
namespace Go.Proofs.Ytenmgkomffnjaaa
open Go.RowKit
namespace L
open K HP
set_option maxRecDepth 100000

/-- A heap's box over three rows. -/
theorem mem_of_rows {b : Nat} {w : World} {s : Spot} {A : List Int} {R : List Nat} {Q : List Int} (h : Rows3 b w s A R Q) (hp : Q.length = A.length) (hs : A.length ≤ 1048576) (hb : b ≤ w.heap.size) (T : TypeId) :
    Mem T b (w.heap.size + 1) (w.alloc (.cells #[.slice (some ⟨s.ga, 0, none⟩) A.length s.ca, .func (.func 30) #[] #[], .slice (some ⟨s.gt, 0, none⟩) R.length s.ct, .slice (some ⟨s.gp, 0, none⟩) A.length s.cp] T)) { s with g := w.heap.size } A R Q := by
  have l1 : b ≤ s.ga ∧ s.ga < w.heap.size := h.all.lt _ rfl
  have l2 : b ≤ s.gt ∧ s.gt < w.heap.size := h.tree.lt _ rfl
  have l3 : b ≤ s.gp ∧ s.gp < w.heap.size := h.place.lt _ rfl
  exact ⟨Box.new _ _ _, (owns_base h.all (Nat.zero_le _)).alloc _, h.tree.alloc _, h.place.alloc _, hp, hb, Nat.lt_succ_self _, by show s.ga < _; omega, by show s.gt < _; omega, by show s.gp < _; omega, by simp, by show w.heap.size ≠ s.ga; omega, by show w.heap.size ≠ s.gt; omega, by show w.heap.size ≠ s.gp; omega, h.ne_at, h.ne_ap, h.ne_tp, hs⟩

set_option maxHeartbeats 2000000 in
theorem copyH_any {full : Bool} {lo hi : Nat} {w : World} {p : Value} {A : List Int} {M : Nat → Prop} {len : Nat} (h : Held full lo hi w p A M len) :
    Calls Try.prog 24 #[p] w fun e w' => ∃ p', e = .returned p' ∧ Held false w.heap.size w'.heap.size w' p' A M len ∧ Below w.heap.size w w' := by
  obtain ⟨hle, hsm⟩ := h.lenle
  obtain ⟨s, R, Q, rfl, h⟩ := h
  have hc := copyQ_any h.mem (by rw [h.len]; omega)
  have hfin : ∀ (s' : Spot) (w' : World), Rows3 w.heap.size w' s' A R Q → w.heap.size ≤ w'.heap.size → Held false w.heap.size (w'.heap.size + 1) (w'.alloc (.cells #[.slice (some ⟨s'.ga, 0, none⟩) A.length s'.ca, .func (.func 30) #[] #[], .slice (some ⟨s'.gt, 0, none⟩) R.length s'.ct, .slice (some ⟨s'.gp, 0, none⟩) A.length s'.cp] 64)) (.pointer (some ⟨w'.heap.size, 0, none⟩)) A M len := fun s' w' hr hs =>
    ⟨{ s' with g := w'.heap.size }, R, Q, rfl, mem_of_rows hr h.mem.plen hsm hs _, (hr.all.lt _ rfl).1, h.good, h.len, fun e => (by cases e), h.acts⟩
  have HC := Lib.hid hc
  have HF := Lib.hid hfin
  clear hc hfin h
  obtain ⟨sg, sga, sgt, sgp, ca, ct, cp⟩ := s
  simp only at *
  go_enter Try.func24, Try.ntmps24
  go_wp2_with (go_at_call 36; refine (HC.out).mono ?_; rintro e w2 ⟨s', rfl, hr, hb⟩; refine Hid.out ?_)
  have HFF := Lib.hid (HF.out s' w2 hr hb.size)
  have HB := Lib.hid (hb.alloc hb.size (.cells #[.slice (some ⟨s'.ga, 0, none⟩) A.length s'.ca, .func (.func 30) #[] #[], .slice (some ⟨s'.gt, 0, none⟩) R.length s'.ct, .slice (some ⟨s'.gp, 0, none⟩) A.length s'.cp] 64))
  clear hr hb
  refine Lib.hid ?_
  go_wp2
  go_ret
  refine ⟨_, rfl, ?_, HB.out⟩
  rw [World.size_alloc]
  exact HFF.out
end L
end Go.Proofs.Ytenmgkomffnjaaa
