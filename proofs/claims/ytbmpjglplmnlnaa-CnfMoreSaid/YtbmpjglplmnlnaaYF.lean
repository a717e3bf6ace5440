/- CnfMore: the walk. -/
import Derived.Test.YtbmpjglplmnlnaaYD
namespace Go.Proofs.Ytbmpjglplmnlnaa
open Go.RowKit
namespace L
open K

theorem lists_take {w : World} {p : Option Addr} {c : Nat} {F : List (List Int)} (h : Lists w (.slice p F.length c) F) {k : Nat} (hk : k ≤ F.length) : Lists w (.slice p k c) (F.take k) := by
  obtain ⟨p', c', he, hl, hm, hc⟩ := h
  cases he
  refine ⟨p, c, by simp; omega, by simp; omega, by simp; omega, fun h0 => ?_⟩
  have h1 : 0 < k := by simp at h0; omega
  obtain ⟨b, off, hp, hc⟩ := hc (by omega)
  refine ⟨b, off, hp, fun j hj => ?_⟩
  have hj' : j < k := by simp at hj; omega
  obtain ⟨u, hu, hi⟩ := hc j (by omega)
  refine ⟨u, hu, ?_⟩
  have : (F.take k).getD j [] = F.getD j [] := by simp [List.getD, List.getElem?_take, hj']
  rw [this]; exact hi
theorem firstE_take {n : Int} {F : List (List Int)} {k : Nat} (h : firstE n F = 0) : firstE n (F.take k) = 0 := by
  induction F generalizing k with
  | nil => simp [firstE]
  | cons l r ih =>
    cases k with
    | zero => rfl
    | succ k =>
      simp only [firstE] at h
      by_cases hc : checkE n l = 0
      · rw [if_pos hc] at h
        simp only [List.take_succ_cons, firstE, hc, if_true]
        exact ih h
      · rw [if_neg hc] at h
        exact absurd h hc
theorem check_take {n : Int} {F : List (List Int)} {k : Nat} (h : checkF n F = 0) : checkF n (F.take k) = 0 := by
  unfold checkF at h ⊢
  by_cases h1 : n < 0 ∨ 1048576 < n
  · rw [if_pos h1] at h; cases h
  rw [if_neg h1] at h ⊢
  by_cases h2 : 1048576 < F.length
  · rw [if_pos h2] at h; cases h
  rw [if_neg h2] at h
  rw [if_neg (by simp; omega)]
  exact firstE_take h
theorem first_take (m : List Bool) (F : List (List Int)) (k : Nat) (hk : k ≤ F.length) : (firstI m (F.take k) = -1 ∧ (firstI m F = -1 ∨ (k : Int) ≤ firstI m F)) ∨ (0 ≤ firstI m (F.take k) ∧ firstI m (F.take k) = firstI m F) := by
  have hg : ∀ j, j < k → (F.take k).getD j [] = F.getD j [] := fun j hj => by simp [List.getD, List.getElem?_take, hj]
  rcases first_facts m (F.take k) with ⟨h1, h2⟩ | ⟨a, h1, h2, h3, h4⟩
  · left
    refine ⟨h1, ?_⟩
    rcases first_facts m F with ⟨h5, _⟩ | ⟨b, h5, h6, h7, h8⟩
    · exact .inl h5
    · right
      rw [h5]
      by_cases hb : b < k
      · have := h2 b (by simp; omega)
        rw [hg b hb, h8] at this
        cases this
      · omega
  · right
    have ha : a < k := by simp at h2; omega
    refine ⟨by omega, ?_⟩
    rw [h1]
    rw [hg a ha] at h4
    refine (firstI_at (fun j hj => ?_) (by simp at h2; omega) h4).symm
    rw [← hg j (by omega)]; exact h3 j hj

set_option maxRecDepth 100000 in
set_option maxHeartbeats 4000000 in
theorem more_walk (n : Int) (v : Value) (L8 : List (List Int)) (b : Int) (cut : Int) (w : World) (hn0 : (Lit.int .u8 n).wf = true) (hW : ListsW .i8 w v L8) (hb0 : (Lit.int .u16 b).wf = true) (hc0 : (Lit.int .u8 cut).wf = true) :
    Calls Try.prog 8 #[.int .u8 n, v, .int .u16 b, .int .u8 cut] w fun e w' => e = .returned (.bool true) ∧ Below w.heap.size w w' := by
  have hfit := fit_any n v L8 w hn0 hW
  have hV : 1 ≤ 1 + n % 12 ∧ 1 + n % 12 ≤ 12 := by omega
  have hcut : 0 ≤ cut ∧ cut ≤ 255 := by simpa [Lit.wf, IntKind.min, IntKind.max, IntKind.signed, IntKind.bits] using hc0
  obtain ⟨hcut1, hcut2⟩ := hcut
  have hv : ∃ p c, v = .slice p L8.length c := by obtain ⟨p, c, h, _⟩ := hW; exact ⟨p, c, h⟩
  obtain ⟨p, c, rfl⟩ := hv
  obtain ⟨V, hVd⟩ : ∃ V : Nat, (V : Int) = 1 + n % 12 := ⟨(1 + n % 12).toNat, by omega⟩
  rw [← hVd] at hfit hV
  have hmod := fun W => model_any V b W (by omega) hb0
  clear hVd hn0 hW hb0 hc0
  go_enter Try.func8, Try.ntmps8
  go_wp2_with fail
  refine hfit.mono ?_
  rintro e w1 ⟨r, rfl, hpost, hb1⟩
  rcases hpost with ⟨hok, v', rfl, hown⟩ | ⟨hok, rfl⟩
  · have hB0 := hb1.alloc hb1.size (.cells #[.int .i64 V, v'] 24)
    have hX0 := Box.new w1 24 #[.int .i64 V, v']
    have hL0 := fit_own hok (hown.alloc (.cells #[.int .i64 V, v'] 24))
    have hF := fit_len (V := V) hok
    have hck := fit_check hV.1 (by omega) hok
    have hi64 := fit_i64 (L := L8) hV.1 (by omega)
    obtain ⟨hF1, hF2⟩ := hF
    have hsh := hown.shape
    clear hown hok hfit
    generalize fitL V L8 = F at *
    obtain ⟨pv, cv, hv', hcv⟩ : ∃ p c, v' = .slice p F.length c ∧ F.length ≤ c := by obtain ⟨p, c, h, h1, _⟩ := hL0; exact ⟨p, c, h, h1⟩
    subst hv'
    have hpv : (pv = none ∧ F.length = 0) ∨ ∃ g, pv = some ⟨g, 0, none⟩ := by
      rcases hsh with ⟨h1, h2⟩ | ⟨g, c, h⟩
      · simp only [Value.slice.injEq] at h1; exact .inl ⟨h1.1, h2⟩
      · simp only [Value.slice.injEq] at h; exact .inr ⟨g, h.1⟩
    clear hsh
    have HI := Lib.hid hi64
    clear hF2 hi64
    have hd1 : ((F.length : Int) + 1 == 0) = false := by simp; omega
    go_wp2_with fail
    have hk0 := Int.emod_nonneg cut (show ((F.length : Int) + 1) ≠ 0 by omega)
    have hk1 := Int.emod_lt_of_pos cut (show 0 < ((F.length : Int) + 1) by omega)
    obtain ⟨k, hk⟩ : ∃ k : Nat, (k : Int) = cut % ((F.length : Int) + 1) := ⟨(cut % ((F.length : Int) + 1)).toNat, by omega⟩
    rw [← hk] at hk0 hk1 ⊢
    clear hk hk0
    have hkl : k ≤ F.length := by omega
    clear hk1 hd1
    refine (hmod _).mono ?_
    rintro e w2 ⟨vm, rfl, hom, hb2⟩
    have hB := hB0.trans (hb2.mono hB0.size)
    have hX := hX0.below hb2 (by simp)
    have hL := hL0.below hb2
    have hm : Bools w2 vm (modelR V b) := owns_bools (base := _) (by rw [modelR_len]; exact hom) (by rw [modelR_len]; omega)
    have hml := modelR_len V b
    clear hB0 hX0 hL0 hb2 hom hmod hb1
    generalize modelR V b = m at *
    have hLk := lists_take hL hkl
    have hf1 := fun x : Later w2.heap.size w2 => first_any V (.slice pv k cv) vm (F.take k) m x.W (by unfold I64; omega) (fun l hl => HI.out l (List.mem_of_mem_take hl)) (hLk.later (Nat.le_refl _) x) (hm.later (Nat.le_refl _) x)
    have hf2 := fun W (hb : Below w2.heap.size w2 W) => first_any V (.slice pv F.length cv) vm F m W (by unfold I64; omega) HI.out (hL.below hb) (hm.below hb)
    rw [firstF_ok (check_take hck) (by omega)] at hf1
    rw [firstF_ok hck (by omega)] at hf2
    obtain ⟨pm, cm, hvm⟩ : ∃ p c, vm = .slice p m.length c := by obtain ⟨p, c, h, _⟩ := hm; exact ⟨p, c, h⟩
    subst hvm
    have hfacts := first_take m F k hkl
    have hAb : -1 ≤ firstI m (F.take k) ∧ firstI m (F.take k) < F.length := by
      rcases first_facts m (F.take k) with ⟨h, _⟩ | ⟨a, h, h2, _⟩ <;> rw [h] <;> simp at * <;> omega
    have hBb : -1 ≤ firstI m F ∧ firstI m F < F.length := by
      rcases first_facts m F with ⟨h, _⟩ | ⟨a, h, h2, _⟩ <;> rw [h] <;> omega
    generalize firstI m F = BB at *
    generalize firstI m (F.take k) = A at *
    obtain ⟨hA1, hA2⟩ := hAb
    obtain ⟨hB1, hB2⟩ := hBb
    have k0 : ∀ x : Later w2.heap.size w2, x.W.cell? ⟨w1.heap.size, 0, none⟩ = some (.int .i64 V) := fun x => (hX.below x.ok hX.lt).cell 0
    have k1 : ∀ x : Later w2.heap.size w2, x.W.cell? ⟨w1.heap.size, 1, none⟩ = some (.slice pv F.length cv) := fun x => (hX.below x.ok hX.lt).cell 1
    have HF1 := Lib.hid hf1
    have HF2 := Lib.hid hf2
    have HFA := Lib.hid hfacts
    have HB := Lib.hid hB
    have HX := Lib.hid hX
    clear hf1 hf2 hfacts hB hX hL hLk hm hck hml
    rcases hpv with ⟨rfl, -⟩ | ⟨g, rfl⟩
    all_goals
      go_wp2
      refine wp_region_later (B := w2.heap.size) (w0 := w2) (by kernel_rfl) (by kernel_rfl) (Below.refl _ _) ?_
      repeat (go_big_quiet_step (first
        | (go_at_call 15; exact later_mono _ (Nat.le_refl _) (HF1.out _))))
      refine wpQuiet_nil ?_
      rintro _ ⟨x, rfl⟩
      have hBx := HB.out.trans (x.ok.mono HB.out.size)
      go_wp2_with fail
      refine (HF2.out _ x.ok).mono ?_
      rintro e w3 ⟨rfl, hb3⟩
      have hBy := hBx.trans (hb3.mono hBx.size)
      clear hBx hb3
      rcases HFA.out with ⟨h1, h2⟩ | ⟨h1, h2⟩
      · have h4 : (A == -1) = true := by simp [h1]
        by_cases h3 : BB = -1
        · have h5 : (BB == -1) = true := by simp [h3]
          clear h1 h2 h3
          go_wp2_with fail
          refine (known_any _).mono ?_
          rintro e w4 ⟨rfl, hb4⟩
          go_wp2
          go_ret
          exact ⟨rfl, hBy.trans (hb4.mono hBy.size)⟩
        · have h5 : (BB == -1) = false := by simp [h3]
          have h6 : (k : Int) ≤ BB := by omega
          clear h1 h2 h3
          go_wp2_with fail
          refine (known_any _).mono ?_
          rintro e w4 ⟨rfl, hb4⟩
          go_wp2
          go_ret
          exact ⟨rfl, hBy.trans (hb4.mono hBy.size)⟩
      · have h4 : (A == -1) = false := by simp; omega
        have h5 : (A != -1) = true := by simp; omega
        have h6 : (A == BB) = true := by simp [h2]
        clear h1 h2
        go_wp2_with fail
        refine (known_any _).mono ?_
        rintro e w4 ⟨rfl, hb4⟩
        go_wp2
        go_ret
        exact ⟨rfl, hBy.trans (hb4.mono hBy.size)⟩
  · have hB := hb1.alloc hb1.size (.cells #[.int .i64 0, .slice none 0 0] 24)
    go_wp2_with fail
    refine (known_any _).mono ?_
    rintro e w2 ⟨rfl, hb2⟩
    go_wp2
    go_ret
    exact ⟨rfl, hB.trans (hb2.mono hB.size)⟩
end L
end Go.Proofs.Ytbmpjglplmnlnaa
