/- The heap's Bump. -/
import Derived.Test.YtenmgkomffnjaaaHH
namespace Go.Proofs.Ytenmgkomffnjaaa
open Go.RowKit
namespace L
open K HP
set_option maxRecDepth 100000

/-- Whether a Bump is done. -/
def BumpOk (A : List Int) (v b : Int) : Prop := (1 ≤ v ∧ v ≤ (A.length : Int)) ∧ 0 ≤ b ∧ b ≤ 1099511627776 ∧ A.getD (v - 1).toNat 0 + b ≤ 1152921504606846976
instance (A : List Int) (v b : Int) : Decidable (BumpOk A v b) := by unfold BumpOk; infer_instance

theorem wrap64_id {x : Int} (h : -9223372036854775808 ≤ x) (h2 : x ≤ 9223372036854775807) : IntKind.i64.wrap x = x := by
  simp only [IntKind.wrap_i64]; omega

theorem bumpH_nil (v b : Int) (w : World) : Calls Try.prog 14 #[.pointer none, .int .i64 v, .int .i64 b] w fun e w' => e = .returned (.int .i64 1) ∧ w = w' := by
  go_enter Try.func14, Try.ntmps14
  go_wp2
  go_ret
  exact ⟨rfl, rfl⟩
section
variable {full : Bool} {lo hi : Nat} {w : World} {p : Value} {A : List Int} {M : Nat → Prop} {len : Nat}

set_option maxHeartbeats 1000000 in
theorem bumpH_range (h : Held full lo hi w p A M len) (v b : Int) (hv : ¬ ((1 ≤ v ∧ v ≤ (A.length : Int)) ∧ 0 ≤ b ∧ b ≤ 1099511627776)) :
    Calls Try.prog 14 #[p, .int .i64 v, .int .i64 b] w fun e w' => e = .returned (.int .i64 3) ∧ w = w' := by
  have hk := knows_any h v
  obtain ⟨g, rfl⟩ := h.ptr
  by_cases h1 : 1 ≤ v ∧ v ≤ (A.length : Int)
  · rw [decide_eq_true h1] at hk
    have HK := Lib.hid hk
    by_cases h2 : b < 0
    · have d2 : decide (b < 0) = true := by simp; omega
      clear h hk hv h1
      go_enter Try.func14, Try.ntmps14
      go_wp2_with (go_at_call 31; refine (HK.out).mono ?_; rintro e w3 ⟨rfl, rfl⟩)
      go_ret
      exact ⟨rfl, rfl⟩
    · have d2 : decide (b < 0) = false := by simp; omega
      have d3 : decide (b > 1099511627776) = true := by simp; omega
      clear h hk hv h1
      go_enter Try.func14, Try.ntmps14
      go_wp2_with (go_at_call 31; refine (HK.out).mono ?_; rintro e w3 ⟨rfl, rfl⟩)
      go_ret
      exact ⟨rfl, rfl⟩
  · rw [decide_eq_false h1] at hk
    have HK := Lib.hid hk
    clear h hk hv h1
    go_enter Try.func14, Try.ntmps14
    go_wp2_with (go_at_call 31; refine (HK.out).mono ?_; rintro e w3 ⟨rfl, rfl⟩)
    go_ret
    exact ⟨rfl, rfl⟩

set_option maxHeartbeats 400000 in
theorem bumpH_any (h : Held full lo hi w p A M len) (i : Nat) (b : Int) (hi0 : i < A.length) (hb0 : 0 ≤ b) (hb1 : b ≤ 1099511627776) :
    Calls Try.prog 14 #[p, .int .i64 ((i : Int) + 1), .int .i64 b] w fun e w' =>
      (A.getD i 0 + b ≤ 1152921504606846976 → e = .returned (.int .i64 0) ∧ Held full lo hi w' p (A.set i (A.getD i 0 + b)) M len ∧ Out lo hi w w') ∧
      (¬ A.getD i 0 + b ≤ 1152921504606846976 → e = .returned (.int .i64 3) ∧ Held full lo hi w' p A M len ∧ Out lo hi w w') := by
  have hk := knows_any h ((i : Int) + 1)
  rw [decide_eq_true (show 1 ≤ (i : Int) + 1 ∧ (i : Int) + 1 ≤ (A.length : Int) by omega)] at hk
  obtain ⟨hle, hsm⟩ := h.lenle
  obtain ⟨ha0, ha1⟩ := h.acts i hi0
  have h' := h
  obtain ⟨s, R, Q, rfl, h⟩ := h
  have hhw := h.mem.hi_w
  have x0 := h.mem.box.cell 0
  have c0 := h.mem.acell0 hi0
  have c1 := h.mem.acell1 hi0
  have hadv := fun (w2 : World) (hb : Below w.heap.size w w2) => advance_any (h.mem.below hb h.mem.hi_w) h.good i (A.getD i 0 + b) hi0 (by omega) (by rw [h.len]; omega) h.lo_a
  have hkeep : A.getD i 0 + b ≤ 1152921504606846976 → ∀ R' Q' w', Mem 64 lo hi w' s (A.set i (A.getD i 0 + b)) R' Q' → HGood (A.set i (A.getD i 0 + b)) M R' Q' → R'.length = R.length → Held full lo hi w' (.pointer (some ⟨s.g, 0, none⟩)) (A.set i (A.getD i 0 + b)) M len :=
    fun hle R' Q' w' h1 h2 h3 => ⟨s, R', Q', rfl, h1, h.lo_a, h2, by have := h.len; omega, fun e => by simpa using h.room e, fun k hk => by
      rw [getD_setA hi0]
      split
      · omega
      · exact h.acts k (by simpa using hk)⟩
  have HK := Lib.hid hk
  have HAD := Lib.hid hadv
  have HKE := Lib.hid hkeep
  have HH := Lib.hid h'
  clear h h' hk hadv hkeep hle
  generalize hA' : A.set i (A.getD i 0 + b) = A' at *
  clear hA'
  generalize A.getD i 0 = a at *
  have hil : i < A.length := hi0
  generalize hn : A.length = n at *
  clear hn
  obtain ⟨sg, sga, sgt, sgp, ca, ct, cp⟩ := s
  simp only at *
  by_cases hle : a + b ≤ 1152921504606846976
  · go_enter Try.func14, Try.ntmps14
    go_wp2_with (go_at_call 31; refine (HK.out).mono ?_; rintro e w3 ⟨rfl, rfl⟩)
    have hb : Below w.heap.size w (w.alloc (.cells #[.int .i64 ((i : Int) + 1), .int .i64 (a + b)] 57)) := (Below.refl _ _).alloc (Nat.le_refl _) _
    have z0 : (w.alloc (.cells #[.int .i64 ((i : Int) + 1), .int .i64 (a + b)] 57)).cell? ⟨w.heap.size, 0, none⟩ = some (.int .i64 ((i : Int) + 1)) := (Box.new w _ _).cell 0
    have z1 : (w.alloc (.cells #[.int .i64 ((i : Int) + 1), .int .i64 (a + b)] 57)).cell? ⟨w.heap.size, 1, none⟩ = some (.int .i64 (a + b)) := (Box.new w _ _).cell 1
    have hwr : IntKind.i64.wrap (i : Int) = i := wrap64_id (by omega) (by omega)
    have HB := Lib.hid hb
    clear hb x0 c0 c1
    generalize w.alloc (.cells #[.int .i64 ((i : Int) + 1), .int .i64 (a + b)] 57) = w1 at *
    have hs1 : w.heap.size < w1.drew.heap.size := World.block_lt_of_cell? _ _ z0
    go_region_held3 (fun w' => w'.cell? ⟨w.heap.size, 0, none⟩ = some (.int .i64 ((i : Int) + 1)) ∧ w'.cell? ⟨w.heap.size, 1, none⟩ = some (.int .i64 (a + b)))
      (first
        | go_keep
        | exact ⟨(h2.cell (p := ⟨w.heap.size, 0, none⟩) hs1 (.inr hhw)).trans z0, (h2.cell (p := ⟨w.heap.size, 1, none⟩) hs1 (.inr hhw)).trans z1⟩)
      (first
        | (go_at_call 32
           with_reducible refine (HAD.out _ (HB.out.drew)).mono ?_
           rintro e w3 ⟨rfl, h1, h2⟩))
    have H1 := Lib.hid h1
    have HO := Lib.hid ((Out.of_below (HB.out.drew) (Nat.le_refl _)).trans h2)
    clear h1 h2 z0 z1 hs1
    go_wp2
    go_ret
    obtain ⟨R', Q', h1, h2, h3⟩ := H1.out
    exact ⟨⟨rfl, HKE.out (by omega) R' Q' _ h1 h2 h3, HO.out⟩, fun h => by omega⟩
  · have hnle := hle
    go_enter Try.func14, Try.ntmps14
    go_wp2_with (go_at_call 31; refine (HK.out).mono ?_; rintro e w3 ⟨rfl, rfl⟩)
    go_ret
    have hb : Below w.heap.size w (w.alloc (.cells #[.int .i64 ((i : Int) + 1), .int .i64 (a + b)] 57)) := (Below.refl _ _).alloc (Nat.le_refl _) _
    exact ⟨fun h => by omega, ⟨rfl, HH.out.grow hb, Out.of_below hb (Nat.le_refl _)⟩⟩
end
end L
end Go.Proofs.Ytenmgkomffnjaaa
