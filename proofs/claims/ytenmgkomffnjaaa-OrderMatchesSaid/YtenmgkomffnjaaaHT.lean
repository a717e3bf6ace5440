/- The reference's heap: its methods. -/
import Derived.Test.YtenmgkomffnjaaaHS
import Derived.Deep.CutRange
namespace Go.Proofs.Ytenmgkomffnjaaa
open Go.RowKit
namespace L
open K HP
set_option maxRecDepth 100000

theorem rnew_bad (n : Int) (w : World) (hn : n < 0 ∨ 1048576 < n) :
    Calls Try.prog 13 #[.int .i64 n] w fun e w' => e = .returned (.tuple #[.pointer none, .int .i64 3]) ∧ w = w' := by
  by_cases h0 : n < 0
  · have d1 : decide (n < 0) = true := by simp; omega
    clear hn
    go_enter Try.func13, Try.ntmps13
    go_wp2
    go_ret2
    exact ⟨rfl, rfl⟩
  · have d1 : decide (n < 0) = false := by simp; omega
    have d2 : decide (n > 1048576) = true := by simp; omega
    clear hn
    go_enter Try.func13, Try.ntmps13
    go_wp2
    go_ret2
    exact ⟨rfl, rfl⟩

theorem infoBo : (Try.prog.info? 4).map (fun i => (i.zero, i.size, i.bytes)) = some (some (.bool false), 1, 1) := by kernel_rfl
theorem made_int (n : Nat) : madeCells #[Value.int .i64 0] n = (icells (List.replicate n 0)).toArray := by
  apply Array.toList_inj.1
  rw [toList_madeCells_one]; simp [icells]
theorem made_bool (n : Nat) : madeCells #[Value.bool false] n = (bcells (List.replicate n false)).toArray := by
  apply Array.toList_inj.1
  rw [toList_madeCells_one]; simp [bcells]
/-- Which are in once the first k are. -/
def inTo (n k : Nat) : List Bool := List.replicate k true ++ List.replicate (n - k) false
theorem inTo_set {n k : Nat} (h : k < n) : (inTo n k).set k true = inTo n (k + 1) := by
  unfold inTo
  rw [List.set_append, if_neg (by simp), List.length_replicate, Nat.sub_self, show n - k = (n - (k + 1)) + 1 by omega, List.replicate_succ, List.set_cons_zero, List.replicate_succ', List.append_assoc, List.singleton_append]

theorem ref_of {n g ga gi : Nat} {w W : World} (hn : n ≤ 1048576) (hx : Box W g 66 #[.slice (some ⟨ga, 0, none⟩) n n, .slice (some ⟨gi, 0, none⟩) n n])
    (ha : Box W ga 3 (madeCells #[.int .i64 0] n)) (hi : Box W gi 4 (madeCells #[.bool false] n)) (h1 : w.heap.size ≤ g) (h2 : w.heap.size ≤ ga) (h3 : w.heap.size ≤ gi) (hb : Below w.heap.size w W) :
    ∃ g' va vi, (Value.pointer (some ⟨g, 0, none⟩)) = .pointer (some ⟨g', 0, none⟩) ∧ RefM w.heap.size W.heap.size W g' va vi (List.replicate n 0) (inTo n 0) ∧ Below w.heap.size w W := by
  have hl : (List.replicate n (0 : Int)).length = n := by simp
  refine ⟨g, _, _, rfl, ⟨hx, ?_, ?_, by simp [inTo], h1, hx.lt, fun k hk => by cases hk; exact ha.lt, fun k hk => by cases hk; exact hi.lt, Nat.le_refl _, by rw [hl]; exact hn, fun k hk => ?_⟩, hb⟩
  · rw [hl]
    exact ⟨by simp [icells], .inr ⟨ga, n, _, rfl, h2, ha, Nat.le_refl _, by unfold maxLen; omega, by rw [size_madeCells]; omega, by rw [made_int, Nat.mul_one]; exact List.take_of_length_le (by simp [icells])⟩⟩
  · rw [hl]
    exact ⟨by simp [bcells, inTo], .inr ⟨gi, n, _, rfl, h3, hi, Nat.le_refl _, by unfold maxLen; omega, by rw [size_madeCells]; omega, by rw [made_bool, Nat.mul_one]; simp only [inTo, List.replicate_zero, List.nil_append, Nat.sub_zero]; exact List.take_of_length_le (by simp [bcells])⟩⟩
  · rw [hl] at hk
    have : (List.replicate n (0 : Int)).getD k 0 = 0 := by simp [List.getD, hk]
    rw [this]; omega

set_option maxHeartbeats 4000000 in
theorem rnew_any (n : Nat) (w : World) (hn : n ≤ 1048576) :
    Calls Try.prog 13 #[.int .i64 n] w fun e w' => ∃ p, e = .returned (.tuple #[p, .int .i64 0]) ∧ RefAt w.heap.size w'.heap.size w' p (List.replicate n 0) (inTo n n) ∧ Below w.heap.size w w' := by
  have hm1 := fun W => run_make_row' (P := Try.prog) 45 3 (.int .i64 0) 8 Try.underlying45 info3 rfl .i64 .i64 n (by omega) (by omega) W
  have hm2 := fun W => run_make_row' (P := Try.prog) 47 4 (.bool false) 1 Try.underlying47 infoBo rfl .i64 .i64 n (by omega) (by omega) W
  go_enter Try.func13, Try.ntmps13
  go_wp2
  go_cut [4] from 5 (fun v4 wc => ∃ g va vi, v4 = .pointer (some ⟨g, 0, none⟩) ∧ RefM w.heap.size wc.heap.size wc g va vi (List.replicate n 0) (inTo n 0) ∧ Below w.heap.size w wc)
  case first =>
    go_region
    all_goals go_wp2
    all_goals go_meet
    · exact ref_of hn (Box.at _ _ _ (by simp)) (((Box.new _ _ _).alloc _).alloc _) ((Box.at _ _ _ (by simp)).alloc _) (by omega) (by omega) (by omega) (((((Below.refl w.heap.size w).alloc (Nat.le_refl _) _).alloc (by simp) _).alloc (by simp only [World.size_alloc]; omega) _).drew)
    · exact ref_of hn (Box.at _ _ _ (by simp)) ((Box.at _ _ _ (by simp)).alloc _) (((Box.new _ _ _).alloc _).alloc _) (by omega) (by omega) (by omega) (((((Below.refl w.heap.size w).alloc (Nat.le_refl _) _).alloc (by simp) _).alloc (by simp only [World.size_alloc]; omega) _).drew)
  case rest =>
    clear hm1 hm2
    obtain ⟨g, va, vi, rfl, hm, hb⟩ := hcut
    have HB := Lib.hid hb
    have HM := Lib.hid hm
    clear hm hb
    go_wp2
    go_loopw [5] (fun iv wr => ∃ (k : Nat) (vi : Value), k ≤ n ∧ iv = .int .i64 k ∧ RefM w.heap.size wc.heap.size wr g va vi (List.replicate n 0) (inTo n k) ∧ Out w.heap.size wc.heap.size wc wr) (fun iv _ => n - (intOf iv).toNat)
    case atStart => exact ⟨0, _, Nat.zero_le _, rfl, HM.out, Out.refl _ _ _⟩
    case round =>
      clear HM
      obtain ⟨k, vi, hk, rfl, hm, ho⟩ := hrel
      have hln : (List.replicate n (0 : Int)).length = n := by simp
      by_cases hlt : k < n
      · obtain ⟨gi, c, rfl, h1, h2, hc⟩ := hm.formI (by omega)
        have x1 := hm.box.cell 1
        have c1 := hc k (by omega)
        have f1 := hm.ins.frozenAt k
        have hst := hm.storeI k true
        rw [inTo_set hlt] at hst
        have hos := ho.setCell (p := ⟨gi, k, none⟩) h1 h2 (.bool true)
        simp only [hln, List.getElem?_toArray, List.getElem?_cons_zero, List.getElem?_cons_succ] at x1 hst
        have HST := Lib.hid hst
        have HOS := Lib.hid hos
        clear hm ho hc hst hos
        generalize (inTo n k).getD k false = q at *
        go_wp2
        go_roundw
        case rel => exact ⟨k + 1, _, by omega, by go_num, HST.out, HOS.out⟩
        case measure => simp [intOf]; omega
      · obtain rfl : k = n := by omega
        have HM := Lib.hid hm
        have HO := Lib.hid ho
        clear hm ho
        go_wp2
        go_ret2
        exact ⟨_, rfl, ⟨g, va, vi, rfl, { HM.out with hi_g := Nat.lt_of_lt_of_le HM.out.hi_g HO.out.size, hi_a := fun j hj => Nat.lt_of_lt_of_le (HM.out.hi_a j hj) HO.out.size, hi_i := fun j hj => Nat.lt_of_lt_of_le (HM.out.hi_i j hj) HO.out.size, hi_w := Nat.le_refl _ }⟩, HB.out.trans (HO.out.to_below HB.out.size (Nat.le_refl _))⟩
end L
end Go.Proofs.Ytenmgkomffnjaaa
