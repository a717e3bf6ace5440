/- slices.Repeat of one number. -/
import Derived.Test.YtenmgkomffnjaaaHB
import Derived.Test.YtenmgkomffnjaaaF
import Derived.Laws.CopyOwn
import Derived.Laws.Bits64b
namespace Go.Proofs.Ytenmgkomffnjaaa
open Go.RowKit
namespace L
open K HP
set_option maxRecDepth 100000

set_option maxHeartbeats 1000000 in
theorem mul64_any (n : Nat) (hn : n ≤ 1048576) (w : World) :
    Calls Try.prog 47 #[.int .u64 1, .int .u64 n] w fun e w' => e = .returned (.tuple #[.int .u64 0, .int .u64 n]) ∧ w = w' := by
  have h1 : bits .and .u64 (n : Int) 4294967295 = n := by
    have h := bits_and_u64_nat n 4294967295 (by omega) (by omega)
    rw [show n &&& 4294967295 = n % 4294967296 from Nat.and_two_pow_sub_one_eq_mod n 32, Nat.mod_eq_of_lt (show n < 4294967296 by omega)] at h
    exact h
  have h2 : (n : Int) / 4294967296 = 0 := by omega
  have h3 : bits .and .u64 1 4294967295 = 1 := by decide
  have h4 : bits .and .u64 0 4294967295 = 0 := by decide
  have h5 : IntKind.u64.wrap (n : Int) = n := by rw [IntKind.wrap_u64]; omega
  go_enter Try.func47, Try.ntmps47
  go_wp2
  go_ret2
  exact ⟨rfl, rfl⟩
set_option maxHeartbeats 1000000 in
theorem mul_any (n : Nat) (hn : n ≤ 1048576) (w : World) :
    Calls Try.prog 42 #[.int .u64 1, .int .u64 n] w fun e w' => e = .returned (.tuple #[.int .u64 0, .int .u64 n]) ∧ w = w' := by
  have h0 := mul64_any n hn w
  have H := Lib.hid h0
  clear h0
  go_enter Try.func42, Try.ntmps42
  go_wp2_with (go_at_call 47; refine (H.out).mono ?_; rintro e w3 ⟨rfl, rfl⟩)
  go_ret2
  exact ⟨rfl, rfl⟩

/-- The first k of n places hold -1, the others nought. -/
def some1 (n k : Nat) : List Int := List.replicate k (-1) ++ List.replicate (n - k) 0
theorem some1_len {n k : Nat} (h : k ≤ n) : (some1 n k).length = n := by simp [some1]; omega

theorem info3s : (Try.prog.info? 3).map (·.size) = some 1 := by kernel_rfl
theorem some1_splice {n k m : Nat} (_h : k + m ≤ n) : splice (icells (some1 n k)) k (List.replicate m (.int .i64 (-1))) = icells (some1 n (k + m)) := by
  unfold splice some1 icells
  have e1 : (List.map (Value.int .i64) (List.replicate k (-1) ++ List.replicate (n - k) 0)).take k = List.replicate k (.int .i64 (-1)) := by
    rw [List.map_append, List.take_append_of_le_length (by simp)]; simp
  have e2 : (List.map (Value.int .i64) (List.replicate k (-1) ++ List.replicate (n - k) 0)).drop (k + m) = List.replicate (n - (k + m)) (.int .i64 0) := by
    rw [List.map_append, List.drop_append]; simp; omega
  rw [List.length_replicate, e1, e2, List.map_append, List.map_replicate, List.map_replicate, ← List.append_assoc, List.replicate_append_replicate]
theorem some1_zero (n : Nat) : icells (some1 n 0) = List.replicate n (.int .i64 0) := by simp [some1, icells]
theorem some1_all (n : Nat) : some1 n n = List.replicate n (-1) := by simp [some1]
theorem some1_at {n k j : Nat} (hj : j < k) : (icells (some1 n k))[j]? = some (.int .i64 (-1)) := by
  unfold icells some1
  rw [List.map_append, List.getElem?_append_left (by simpa using hj)]
  simp [hj]

set_option maxHeartbeats 2000000 in
theorem repeat_any (g n : Nat) (w : World) (hn : n ≤ 1048576) (h : w.cell? ⟨g, 0, none⟩ = some (.int .i64 (-1))) :
    Calls Try.prog 37 #[.slice (some ⟨g, 0, none⟩) 1 1, .int .i64 n] w fun e w' => ∃ g', e = .returned (.slice (some ⟨g', 0, none⟩) n n) ∧ w'.ownsRow w.heap.size 3 1 (.slice (some ⟨g', 0, none⟩) n n) n (icells (List.replicate n (-1))) ∧ Below w.heap.size w w' := by
  obtain ⟨i3, hi3, hz30, hz31, hz32⟩ := info_parts info3
  have hmul := mul_any n hn w
  have HM := Lib.hid hmul
  clear hmul
  have hu : IntKind.u64.wrap (n : Int) = n := by rw [IntKind.wrap_u64]; omega
  have hi' : IntKind.i64.wrap (n : Int) = n := by rw [IntKind.wrap_i64]; omega
  go_enter Try.func37, Try.ntmps37
  go_wp2_with (first
    | (go_at_call 42; refine (HM.out).mono ?_; rintro e w3 ⟨rfl, rfl⟩)
    | (at_make; refine wpList_make_full _ rfl _ _ 45 rfl w.heap.size 3 i3 (.int .i64 0) 1 Try.underlying45 hi3 hz30 hz31 .i64 .i64 _ _ n rfl rfl rfl rfl (by rw [hz32]; omega) (by unfold maxLen; omega) (Nat.le_refl _) ?_))
  intro w1 hown hgrow
  rw [toList_madeCells_one] at hown
  have hb1 := (Below.refl w.heap.size w).grown hgrow (Nat.le_refl _) (fun k h => by cases h)
  have hcur : w1.heap[w.heap.size]? = some (.cells (icells (some1 n 0)).toArray 3 (0, 0)) := by
    rw [some1_zero]
    rcases hown.2 with ⟨h', _⟩ | ⟨g', cap', cur, h', _, hgg, _, _, hcs, htake⟩
    · simp at h'
    · simp only [Value.slice.injEq, Option.some.injEq, Addr.mk.injEq, and_true, true_and] at h'
      obtain ⟨rfl, rfl⟩ := h'
      rw [hgg]
      have h2 : cur.toList = List.replicate n (Value.int .i64 0) := by rw [← htake]; exact (List.take_of_length_le (by simp [hcs])).symm
      rw [← h2]
  have hsrc := (hb1.cell (p := ⟨g, 0, none⟩) (World.block_lt_of_cell? _ _ h)).trans h
  clear hown hgrow
  have HCUR := Lib.hid hcur
  have HB1 := Lib.hid hb1
  have HSRC := Lib.hid hsrc
  clear hcur hb1 hsrc h
  go_wp2_with (with_reducible refine wpList_copy_splice rfl _ _ 45 45 rfl 3 Try.underlying45 info3s (some ⟨w.heap.size, 0, none⟩) (some ⟨g, 0, none⟩) n n 1 1 rfl rfl w.heap.size 0 (icells (some1 n 0)) 3 HCUR.out (List.replicate (Nat.min 1 n) (.int .i64 (-1))) (by simp) ?c1 ?c2 ?c3 w.heap.size w HB1.out (Nat.le_refl _) ?_)
  case c1 =>
    intro h0 j v hj
    have hj' := (List.getElem?_eq_some_iff.1 hj).1
    rw [List.length_replicate] at hj'
    have hm : Nat.min 1 n ≤ 1 := Nat.min_le_left _ _
    obtain rfl : j = 0 := by omega
    rw [List.getElem?_replicate, if_pos hj'] at hj
    simp only [Option.some.injEq] at hj
    rw [← hj]
    exact HSRC.out
  case c2 => rw [List.length_replicate, icells_len, some1_len (Nat.zero_le _), Nat.zero_add]; exact Nat.min_le_right _ _
  case c3 => intro u hu; rw [List.mem_replicate] at hu; rw [hu.2]; rfl
  intro w2 hcells hb2
  have hh := hcells.out
  rw [some1_splice (by have : Nat.min 1 n ≤ n := Nat.min_le_right _ _; omega), Nat.zero_add] at hh
  have hk1 : Nat.min 1 n ≤ n := Nat.min_le_right _ _
  have hk2 : 0 < n → 1 ≤ Nat.min 1 n := fun h => Nat.le_min.2 ⟨Nat.le_refl _, h⟩
  generalize Nat.min 1 n = k0 at *
  clear hcells HCUR HB1 HSRC
  have HH := Lib.hid hh
  have HB2 := Lib.hid hb2
  clear hh hb2
  go_wp2
  go_loopw [8] (fun kv wr => ∃ k : Nat, k ≤ n ∧ (0 < n → 1 ≤ k) ∧ kv = .int .i64 k ∧ wr.heap[w.heap.size]? = some (.cells (icells (some1 n k)).toArray 3 (0, 0)) ∧ Below w.heap.size w wr) (fun kv _ => n - (intOf kv).toNat)
  case atStart => exact ⟨k0, hk1, hk2, rfl, HH.out, HB2.out⟩
  case round =>
    clear HH HB2 hk1 hk2
    obtain ⟨k, hk, hk1, rfl, hc, hb⟩ := hrel
    have HC := Lib.hid hc
    have HB := Lib.hid hb
    have HK1 := Lib.hid hk1
    clear hc hb hk1
    by_cases hlt : k < n
    · have hnk : ¬ n = k := by omega
      have hc2 := HC.out
      have hcat : ∀ j, j < k → wr.cell? ⟨w.heap.size, j, none⟩ = some (.int .i64 (-1)) := fun j hj => (cell_of_row wr w.heap.size j _ _ (0, 0) hc2).trans (by simpa using some1_at (n := n) hj)
      have HCAT := Lib.hid hcat
      clear hc2 hcat
      obtain ⟨m, hmd⟩ : ∃ m, Nat.min k (n - k) = m := ⟨_, rfl⟩
      have hm1 : k + m ≤ n := by have : Nat.min k (n - k) ≤ n - k := Nat.min_le_right _ _; omega
      have hm3 : 1 ≤ m := by have := HK1.out (by omega); rw [← hmd]; exact Nat.le_min.2 ⟨this, by omega⟩
      have hm4 : m ≤ k := by rw [← hmd]; exact Nat.min_le_left _ _
      have hp1 : ∀ j v, (List.replicate m (Value.int .i64 (-1)))[j]? = some v → wr.drew.cell? ((⟨w.heap.size, 0, none⟩ : Addr).add j) = some v := by
        intro j v hj
        have hj' := (List.getElem?_eq_some_iff.1 hj).1
        rw [List.length_replicate] at hj'
        rw [List.getElem?_replicate, if_pos hj'] at hj
        simp only [Option.some.injEq] at hj
        rw [← hj]
        have hjk : j < k := Nat.lt_of_lt_of_le hj' hm4
        have h2 := HCAT.out j hjk
        rw [show (⟨w.heap.size, 0, none⟩ : Addr).add j = ⟨w.heap.size, j, none⟩ by simp [Addr.add] <;> omega]
        exact h2
      have hp2 : k + (List.replicate m (Value.int .i64 (-1))).length ≤ (icells (some1 n k)).length := by rw [List.length_replicate, icells_len, some1_len hk]; exact hm1
      have hp3 : ∀ v ∈ List.replicate m (Value.int .i64 (-1)), v.oneCell' = true := by intro u hu; rw [List.mem_replicate] at hu; rw [hu.2]; rfl
      have hp0 : (List.replicate m (Value.int .i64 (-1))).length = Nat.min k (n - k) := by rw [List.length_replicate, hmd]
      have hsp := some1_splice hm1
      have HP0 := Lib.hid hp0
      have HP1 := Lib.hid hp1
      have HP2 := Lib.hid hp2
      have HP3 := Lib.hid hp3
      have HSP := Lib.hid hsp
      have HMD := Lib.hid hmd
      clear hp0 hp1 hp2 hp3 hsp hmd
      have hwr : IntKind.i64.wrap ((k : Int) + (m : Int)) = (k : Int) + (m : Int) := by rw [IntKind.wrap_i64]; omega
      generalize List.replicate m (Value.int .i64 (-1)) = cs at *
      go_wp2
      go_region_law (first
        | (refine step_copy_splice rfl _ _ 45 45 rfl 3 Try.underlying45 info3s (some ⟨w.heap.size, k, none⟩) (some ⟨w.heap.size, 0, none⟩) (n - k) (n - k) k n (by simp [Act.eval, Act.put]) (by simp [Act.eval, Act.put]) w.heap.size k (icells (some1 n k)) 3 HC.out cs HP0.out (fun _ => ⟨rfl, _, rfl, HP1.out⟩) HP2.out HP3.out w.heap.size w (HB.out.drew) (Nat.le_refl _) ?_
           intro w3 hc3 hb3
           rw [HP0.out, HMD.out]))
      have hc4 := hc3.out
      rw [HSP.out] at hc4
      have HC4 := Lib.hid hc4
      have HB4 := Lib.hid hb3
      clear hc3 hb3 hc4
      go_simp
      go_wp2
      go_roundw
      case rel => exact ⟨k + m, hm1, fun _ => by omega, by go_num, HC4.out, HB4.out⟩
      case measure => simp [intOf]; omega
    · obtain rfl : k = n := by omega
      go_wp2
      go_ret
      refine ⟨w.heap.size, rfl, ?_, HB.out⟩
      have hc := HC.out
      rw [some1_all] at hc
      exact ⟨by rw [icells_len]; simp, .inr ⟨w.heap.size, k, _, rfl, Nat.le_refl _, hc, Nat.le_refl _, by unfold maxLen; omega, by simp [icells_len], by simp only [Nat.mul_one]; exact List.take_of_length_le (by rw [icells_len]; simp)⟩⟩
end L
end Go.Proofs.Ytenmgkomffnjaaa
