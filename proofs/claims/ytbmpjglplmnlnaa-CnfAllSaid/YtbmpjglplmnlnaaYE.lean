/- CnfAll: the walk. -/
import Derived.Test.YtbmpjglplmnlnaaYD
namespace Go.Proofs.Ytbmpjglplmnlnaa
open Go.RowKit
namespace L
open K

set_option maxRecDepth 100000 in
set_option maxHeartbeats 4000000 in
theorem all_walk (n : Int) (v : Value) (L8 : List (List Int)) (b : Int) (w : World) (hn0 : (Lit.int .u8 n).wf = true) (hW : ListsW .i8 w v L8) (hb0 : (Lit.int .u16 b).wf = true) :
    Calls Try.prog 7 #[.int .u8 n, v, .int .u16 b] w fun e w' => e = .returned (.bool true) ∧ Below w.heap.size w w' := by
  have hfit := fit_any n v L8 w hn0 hW
  have hV : 1 ≤ 1 + n % 12 ∧ 1 + n % 12 ≤ 12 := by omega
  have hv : ∃ p c, v = .slice p L8.length c := by obtain ⟨p, c, h, _⟩ := hW; exact ⟨p, c, h⟩
  obtain ⟨p, c, rfl⟩ := hv
  obtain ⟨V, hVd⟩ : ∃ V : Nat, (V : Int) = 1 + n % 12 := ⟨(1 + n % 12).toNat, by omega⟩
  rw [← hVd] at hfit hV
  have hmod := fun W => model_any V b W (by omega) hb0
  clear hVd hn0 hW hb0
  go_enter Try.func7, Try.ntmps7
  go_wp2_with fail
  refine hfit.mono ?_
  rintro e w1 ⟨r, rfl, hpost, hb1⟩
  rcases hpost with ⟨hok, v', rfl, hown⟩ | ⟨hok, rfl⟩
  · have hB0 := hb1.alloc hb1.size (.cells #[.int .i64 V, v'] 24)
    have hX0 := Box.new w1 24 #[.int .i64 V, v']
    have hL0 := fit_own hok (hown.alloc (.cells #[.int .i64 V, v'] 24))
    have hF := fit_len (V := V) hok
    have hck := fit_check hV.1 (by omega) hok
    have hi64 := fit_i64 (L := L8) hV.1 (by omega)
    obtain ⟨hF1, hF2⟩ := hF
    clear hown hok hfit
    generalize fitL V L8 = F at *
    obtain ⟨pv, cv, hv'⟩ : ∃ p c, v' = .slice p F.length c := by obtain ⟨p, c, h, _⟩ := hL0; exact ⟨p, c, h⟩
    subst hv'
    have hF2' := Lib.hid hF2
    have HI := Lib.hid hi64
    clear hF2 hi64
    go_wp2_with fail
    refine (hmod _).mono ?_
    rintro e w2 ⟨vm, rfl, hom, hb2⟩
    have hB := hB0.trans (hb2.mono hB0.size)
    have hX := hX0.below hb2 (by simp)
    have hL := hL0.below hb2
    have hm : Bools w2 vm (modelR V b) := owns_bools (base := _) (by rw [modelR_len]; exact hom) (by rw [modelR_len]; omega)
    have hml := modelR_len V b
    clear hB0 hX0 hL0 hb2 hom hmod hb1
    generalize modelR V b = m at *
    have hfirst := first_any V (.slice pv F.length cv) vm F m w2 (by unfold I64; omega) HI.out hL hm
    rw [firstF_ok hck (by omega)] at hfirst
    obtain ⟨pm, cm, hvm⟩ : ∃ p c, vm = .slice p m.length c := by obtain ⟨p, c, h, _⟩ := hm; exact ⟨p, c, h⟩
    subst hvm
    have k0 : w2.cell? ⟨w1.heap.size, 0, none⟩ = some (.int .i64 V) := hX.cell 0
    have k1 : w2.cell? ⟨w1.heap.size, 1, none⟩ = some (.slice pv F.length cv) := hX.cell 1
    have hAb : -1 ≤ firstI m F ∧ firstI m F < F.length := by
      rcases first_facts m F with ⟨h, _⟩ | ⟨a, h, h2, _⟩ <;> rw [h] <;> omega
    have hfacts := Lib.hid (first_facts m F)
    generalize firstI m F = A at *
    obtain ⟨hA1, hA2⟩ := hAb
    have HCK := Lib.hid hck
    have HML := Lib.hid hml
    clear hck hml
    go_wp2_with fail
    refine hfirst.mono ?_
    rintro e w3 ⟨rfl, hb3⟩
    have hB' := hB.trans (hb3.mono hB.size)
    have hX' := hX.below hb3 hX.lt
    have hL' := hL.below hb3
    have hm' := hm.below hb3
    have k1' : w3.cell? ⟨w1.heap.size, 1, none⟩ = some (.slice pv F.length cv) := hX'.cell 1
    clear hB hX hL hm k0 k1 hfirst hb3
    go_wp2
    go_loop [12] (fun i => ∃ k : Nat, k ≤ F.length ∧ i = .int .i64 k) (fun i => F.length - (intOf i).toNat)
    case atStart => exact ⟨0, Nat.zero_le _, rfl⟩
    case round =>
      obtain ⟨k, hk, rfl⟩ := hrel
      by_cases hlt : k < F.length
      · obtain ⟨p1, c1, he, _, _, hcell⟩ := hL'
        obtain ⟨b1, o1, hp1, hcell⟩ := hcell (by omega)
        obtain ⟨u, hu, hiu⟩ := hcell k hlt
        simp only [Value.slice.injEq] at he
        obtain ⟨he1, -, -⟩ := he
        rw [hp1] at he1
        subst he1
        have hh := holds_any (.slice pm m.length cm) u m (F.getD k []) w3 (HI.out _ (mem_getDL hlt)) hm' hiu
        clear hcell hp1 hm'
        have hF20 := hF2'.out _ (mem_getDL hlt)
        have hcase : (A = -1 ∧ holdsB m (F.getD k []) = true) ∨ ((k : Int) < A ∧ holdsB m (F.getD k []) = true) ∨ ((k : Int) = A ∧ holdsB m (F.getD k []) = false) ∨ (0 ≤ A ∧ A < (k : Int)) := by
          rcases hfacts.out with ⟨h, h1⟩ | ⟨a, h, h1, h2, h3⟩
          · exact .inl ⟨h, h1 k hlt⟩
          · rcases Nat.lt_trichotomy k a with hka | hka | hka
            · exact .inr (.inl ⟨by omega, h2 k hka⟩)
            · exact .inr (.inr (.inl ⟨by omega, by rw [hka]; exact h3⟩))
            · exact .inr (.inr (.inr ⟨by omega, by omega⟩))
        have hnil : holdsB m (F.getD k []) = true → 0 < (F.getD k []).length := fun h => by
          cases hq : F.getD k [] with
          | nil => rw [hq, holds_nil] at h; cases h
          | cons _ _ => simp
        have hq20 : (F.getD k []).length ≤ 20 := hF20
        obtain ⟨pu, cu, rfl, _⟩ := hiu
        clear hF20
        generalize holdsB m (F.getD k []) = q at *
        generalize (F.getD k []).length = nk at *
        have HN := Lib.hid hnil
        clear hnil
        rcases hcase with ⟨h1, rfl⟩ | ⟨h1, rfl⟩ | ⟨h1, rfl⟩ | ⟨h0, h1⟩
        · have h2 := HN.out rfl
          have h3 : ((nk : Int) == 0) = false := by simp; omega
          have h4 : (A == -1) = true := by simp [h1]
          have h5 : ((k : Int) == A) = false := by simp; omega
          clear h1
          go_wp2_with fail
          refine hh.mono ?_
          rintro e w4 ⟨rfl, rfl⟩
          go_wp2
          go_round
          case rel => exact ⟨k + 1, by omega, by go_num⟩
          case measure => simp [intOf] <;> omega
        · have h2 := HN.out rfl
          have h3 : ((nk : Int) == 0) = false := by simp; omega
          have h4 : (A == -1) = false := by simp; omega
          have h5 : ((k : Int) == A) = false := by simp; omega
          go_wp2_with fail
          refine hh.mono ?_
          rintro e w4 ⟨rfl, rfl⟩
          go_wp2
          go_round
          case rel => exact ⟨k + 1, by omega, by go_num⟩
          case measure => simp [intOf] <;> omega
        · have h1a : (k : Int) ≤ A := by omega
          have h1b : A ≤ (k : Int) := by omega
          have h4 : (A == -1) = false := by simp; omega
          have h5 : ((k : Int) == A) = true := by simp [h1]
          clear h1
          by_cases h3 : ((nk : Int) == 0) = true
          · go_wp2_with fail
            refine hh.mono ?_
            rintro e w4 ⟨rfl, rfl⟩
            go_wp2
            go_round
            case rel => exact ⟨k + 1, by omega, by go_num⟩
            case measure => simp [intOf] <;> omega
          · have h3' : ((nk : Int) == 0) = false := by simpa using h3
            go_wp2_with fail
            refine hh.mono ?_
            rintro e w4 ⟨rfl, rfl⟩
            go_wp2
            go_round
            case rel => exact ⟨k + 1, by omega, by go_num⟩
            case measure => simp [intOf] <;> omega
        · have h4 : (A == -1) = false := by simp; omega
          have h5 : ((k : Int) == A) = false := by simp; omega
          by_cases h3 : ((nk : Int) == 0) = true
          · go_wp2_with fail
            refine hh.mono ?_
            rintro e w4 ⟨rfl, rfl⟩
            go_wp2
            go_round
            case rel => exact ⟨k + 1, by omega, by go_num⟩
            case measure => simp [intOf] <;> omega
          · have h3' : ((nk : Int) == 0) = false := by simpa using h3
            go_wp2_with fail
            refine hh.mono ?_
            rintro e w4 ⟨rfl, rfl⟩
            go_wp2
            go_round
            case rel => exact ⟨k + 1, by omega, by go_num⟩
            case measure => simp [intOf] <;> omega
      · go_wp2_with fail
        refine (known_any _).mono ?_
        rintro e w4 ⟨rfl, hb4⟩
        go_wp2
        go_ret
        exact ⟨rfl, hB'.trans (hb4.mono hB'.size)⟩
  · have hB := hb1.alloc hb1.size (.cells #[.int .i64 0, .slice none 0 0] 24)
    go_wp2_with fail
    refine (known_any _).mono ?_
    rintro e w2 ⟨rfl, hb2⟩
    go_wp2
    go_ret
    exact ⟨rfl, hB.trans (hb2.mono hB.size)⟩
end L
end Go.Proofs.Ytbmpjglplmnlnaa
