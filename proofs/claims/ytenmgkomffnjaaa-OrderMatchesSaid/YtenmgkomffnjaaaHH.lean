/- The heap's methods: knows, Len, Has, Pop, Push. -/
import Derived.Test.YtenmgkomffnjaaaHG
namespace Go.Proofs.Ytenmgkomffnjaaa
open Go.RowKit
namespace K
open HP
set_option maxRecDepth 100000
/-- A heap, between lo and hi: activities A, M holds of those that are in it, so many are. -/
structure HeldAt (full : Bool) (lo hi : Nat) (w : World) (s : Spot) (A : List Int) (M : Nat → Prop) (R : List Nat) (Q : List Int) (len : Nat) : Prop where
  mem : Mem 64 lo hi w s A R Q
  lo_a : lo ≤ s.ga
  good : HGood A M R Q
  len : R.length = len
  room : full = true → A.length ≤ s.ct
  acts : ∀ k, k < A.length → 0 ≤ A.getD k 0 ∧ A.getD k 0 ≤ 1152921504606846976
def Held (full : Bool) (lo hi : Nat) (w : World) (p : Value) (A : List Int) (M : Nat → Prop) (len : Nat) : Prop :=
  ∃ s R Q, p = .pointer (some ⟨s.g, 0, none⟩) ∧ HeldAt full lo hi w s A M R Q len
section
variable {full : Bool} {lo hi : Nat} {w w' : World} {p : Value} {A : List Int} {M M' : Nat → Prop} {len : Nat}
theorem Held.below {B : Nat} (h : Held full lo hi w p A M len) (hb : Below B w w') (hB : hi ≤ B) : Held full lo hi w' p A M len := by
  obtain ⟨s, R, Q, hp, h⟩ := h
  exact ⟨s, R, Q, hp, { h with mem := h.mem.below hb hB }⟩
theorem Held.hi_w (h : Held full lo hi w p A M len) : hi ≤ w.heap.size := by
  obtain ⟨s, R, Q, hp, h⟩ := h
  exact h.mem.hi_w
theorem Held.grow (h : Held full lo hi w p A M len) (hb : Below w.heap.size w w') : Held full lo hi w' p A M len := h.below hb h.hi_w
theorem Held.out {lo' hi' : Nat} (h : Held full lo hi w p A M len) (ho : Out lo' hi' w w') (hd : hi ≤ lo' ∨ hi' ≤ lo) : Held full lo hi w' p A M len := by
  obtain ⟨s, R, Q, hp, h⟩ := h
  exact ⟨s, R, Q, hp, { h with mem := h.mem.out h.lo_a ho hd }⟩
theorem Held.congr (h : Held full lo hi w p A M len) (e : ∀ x, M x ↔ M' x) : Held full lo hi w p A M' len := by
  obtain ⟨s, R, Q, hp, h⟩ := h
  exact ⟨s, R, Q, hp, { h with good := h.good.congr e }⟩
theorem Held.wider {lo2 hi2 : Nat} (h : Held full lo hi w p A M len) (h1 : lo2 ≤ lo) (h2 : hi ≤ hi2) (h3 : hi2 ≤ w.heap.size) : Held full lo2 hi2 w p A M len := by
  obtain ⟨s, R, Q, hp, h⟩ := h
  have m := h.mem
  exact ⟨s, R, Q, hp, { h with mem := { m with tree := owns_base m.tree h1, place := owns_base m.place h1, lo_g := Nat.le_trans h1 m.lo_g, hi_g := Nat.lt_of_lt_of_le m.hi_g h2, hi_a := Nat.lt_of_lt_of_le m.hi_a h2, hi_t := Nat.lt_of_lt_of_le m.hi_t h2, hi_p := Nat.lt_of_lt_of_le m.hi_p h2, hi_w := h3 }, lo_a := Nat.le_trans h1 h.lo_a }⟩
theorem Held.ptr (h : Held full lo hi w p A M len) : ∃ g, p = .pointer (some ⟨g, 0, none⟩) := by
  obtain ⟨s, R, Q, hp, h⟩ := h
  exact ⟨_, hp⟩
theorem Held.lenle (h : Held full lo hi w p A M len) : len ≤ A.length ∧ A.length ≤ 1048576 := by
  obtain ⟨s, R, Q, hp, h⟩ := h
  exact ⟨by rw [← h.len]; exact h.good.pos.size, h.mem.small⟩
theorem Held.acts (h : Held full lo hi w p A M len) : ∀ k, k < A.length → 0 ≤ A.getD k 0 ∧ A.getD k 0 ≤ 1152921504606846976 := by
  obtain ⟨s, R, Q, hp, h⟩ := h
  exact h.acts
theorem Held.bd (h : Held full lo hi w p A M len) : ∀ x, M x → x < A.length := by
  obtain ⟨s, R, Q, hp, h⟩ := h
  exact h.good.pos.bd
end
end K
namespace L
open K HP
set_option maxRecDepth 100000
section
variable {full : Bool} {lo hi : Nat} {w : World} {p : Value} {A : List Int} {M : Nat → Prop} {len : Nat}

set_option maxHeartbeats 1000000 in
theorem knows_any (h : Held full lo hi w p A M len) (v : Int) :
    Calls Try.prog 31 #[p, .int .i64 v] w fun e w' => e = .returned (.bool (decide (1 ≤ v ∧ v ≤ A.length))) ∧ w = w' := by
  obtain ⟨s, R, Q, rfl, h⟩ := h
  have x0 := h.mem.box.cell 0
  have hsm := h.mem.small
  clear h
  obtain ⟨sg, sga, sgt, sgp, ca, ct, cp⟩ := s
  simp only at *
  generalize hn : A.length = n at *
  clear hn
  by_cases h1 : 1 ≤ v
  · have d0 : decide (v ≥ 1) = true := by simp; omega
    have d1 : decide (1 ≤ v ∧ v ≤ (n : Int)) = decide (v ≤ (n : Int)) := by simp [h1]
    rw [d1]
    clear d1
    go_enter Try.func31, Try.ntmps31
    go_wp2
    go_ret
    exact ⟨rfl, rfl⟩
  · have d0 : decide (v ≥ 1) = false := by simp; omega
    have d1 : decide (1 ≤ v ∧ v ≤ (n : Int)) = false := by simp; omega
    rw [d1]
    clear d1
    go_enter Try.func31, Try.ntmps31
    go_wp2
    go_ret
    exact ⟨rfl, rfl⟩

set_option maxHeartbeats 1000000 in
theorem lenH_any (h : Held full lo hi w p A M len) :
    Calls Try.prog 22 #[p] w fun e w' => e = .returned (.int .i64 len) ∧ w = w' := by
  obtain ⟨s, R, Q, rfl, h⟩ := h
  have x2 := h.mem.box.cell 2
  have hl := h.len
  clear h
  obtain ⟨sg, sga, sgt, sgp, ca, ct, cp⟩ := s
  simp only at *
  rw [hl] at x2
  clear hl
  go_enter Try.func22, Try.ntmps22
  go_wp2
  go_ret
  exact ⟨rfl, rfl⟩
theorem lenH_nil (w : World) : Calls Try.prog 22 #[.pointer none] w fun e w' => e = .returned (.int .i64 0) ∧ w = w' := by
  go_enter Try.func22, Try.ntmps22
  go_wp2
  go_ret
  exact ⟨rfl, rfl⟩

/-- Whether a number is that of a variable that is in. -/
def InH (A : List Int) (M : Nat → Prop) (v : Int) : Prop := (1 ≤ v ∧ v ≤ (A.length : Int)) ∧ M (v - 1).toNat

set_option maxHeartbeats 1000000 in
theorem hasH_any (h : Held full lo hi w p A M len) (v : Int) :
    Calls Try.prog 20 #[p, .int .i64 v] w fun e w' => ∃ b, e = .returned (.bool b) ∧ (b = true ↔ InH A M v) ∧ w = w' := by
  have hk := knows_any h v
  obtain ⟨s, R, Q, rfl, h⟩ := h
  have hsm := h.mem.small
  by_cases hr : 1 ≤ v ∧ v ≤ (A.length : Int)
  · have d : decide (1 ≤ v ∧ v ≤ (A.length : Int)) = true := decide_eq_true hr
    rw [d] at hk
    obtain ⟨i, rfl⟩ : ∃ i : Nat, v = (i : Int) + 1 := ⟨(v - 1).toNat, by omega⟩
    have hi0 : i < A.length := by omega
    have hh := has_any h.mem i hi0
    have hiff := h.good.has hi0
    generalize Q.getD i 0 = q at hh hiff
    have HK := Lib.hid hk
    have HH := Lib.hid hh
    have HIF := Lib.hid hiff
    have HRR := Lib.hid hr
    clear h hk hh hiff d hr
    obtain ⟨sg, sga, sgt, sgp, ca, ct, cp⟩ := s
    simp only at *
    go_enter Try.func20, Try.ntmps20
    go_wp2_with (first
      | (go_at_call 31; refine (HK.out).mono ?_; rintro e w3 ⟨rfl, rfl⟩)
      | (go_at_call 35; refine (HH.out).mono ?_; rintro e w3 ⟨rfl, rfl⟩))
    go_ret
    refine ⟨_, rfl, ?_, rfl⟩
    rw [HIF.out]
    exact ⟨fun hM => ⟨HRR.out, by rw [show ((i : Int) + 1 - 1).toNat = i by omega]; exact hM⟩, fun hM => by have := hM.2; rwa [show ((i : Int) + 1 - 1).toNat = i by omega] at this⟩
  · have d : decide (1 ≤ v ∧ v ≤ (A.length : Int)) = false := decide_eq_false hr
    rw [d] at hk
    have HK := Lib.hid hk
    have HRR := Lib.hid hr
    clear h hk d hr
    obtain ⟨sg, sga, sgt, sgp, ca, ct, cp⟩ := s
    simp only at *
    go_enter Try.func20, Try.ntmps20
    go_wp2_with (first
      | (go_at_call 31; refine (HK.out).mono ?_; rintro e w3 ⟨rfl, rfl⟩))
    go_ret
    exact ⟨false, rfl, ⟨fun e => (by cases e), fun e => absurd e.1 HRR.out⟩, rfl⟩

/-- Pop of an empty heap. -/
theorem popH_none (h : Held full lo hi w p A M 0) :
    Calls Try.prog 16 #[p] w fun e w' => e = .returned (.tuple #[.int .i64 0, .int .i64 6]) ∧ w = w' := by
  have hl := lenH_any h
  obtain ⟨g, rfl⟩ := h.ptr
  have HL := Lib.hid hl
  clear h hl
  go_enter Try.func16, Try.ntmps16
  go_wp2_with (go_at_call 22; refine (HL.out).mono ?_; rintro e w3 ⟨rfl, rfl⟩)
  go_ret2
  exact ⟨rfl, rfl⟩
set_option maxHeartbeats 1000000 in
/-- Pop of a heap that is not empty. -/
theorem popH_some (h : Held full lo hi w p A M (len + 1)) :
    Calls Try.prog 16 #[p] w fun e w' => ∃ b, e = .returned (.tuple #[.int .i64 ((b : Nat) + 1), .int .i64 0]) ∧ Best A M b ∧ b < A.length ∧ Held full lo hi w' p A (fun x => M x ∧ x ≠ b) len ∧ Out lo hi w w' := by
  have hl := lenH_any h
  obtain ⟨hle, hsm⟩ := h.lenle
  obtain ⟨s, R, Q, rfl, h⟩ := h
  have h0 : 0 < R.length := by rw [h.len]; omega
  have hp := pop_any h.mem h.good h0 (by rw [h.len]; omega)
  have hb := h.good.best h0
  have hlt := h.good.lt h0
  have hkeep : ∀ R' Q' w', Mem 64 lo hi w' s A R' Q' → HGood A (fun x => M x ∧ x ≠ R.getD 0 0) R' Q' → R'.length + 1 = R.length → Held full lo hi w' (.pointer (some ⟨s.g, 0, none⟩)) A (fun x => M x ∧ x ≠ R.getD 0 0) len :=
    fun R' Q' w' h1 h2 h3 => ⟨s, R', Q', rfl, h1, h.lo_a, h2, by have := h.len; omega, h.room, h.acts⟩
  have hf20 : R.getD 0 0 ≤ 1048576 := by omega
  have HL := Lib.hid hl
  have HP := Lib.hid hp
  have HB := Lib.hid hb
  have HLT := Lib.hid hlt
  have HK := Lib.hid hkeep
  clear h hl hp hb hlt hkeep h0
  generalize hf : R.getD 0 0 = f at *
  have HF := Lib.hid hf
  clear hf
  obtain ⟨sg, sga, sgt, sgp, ca, ct, cp⟩ := s
  simp only at *
  go_enter Try.func16, Try.ntmps16
  go_wp2_with (first
    | (go_at_call 22; refine (HL.out).mono ?_; rintro e w3 ⟨rfl, rfl⟩)
    | (go_at_call 33; refine (HP.out).mono ?_; rintro e w3 ⟨rfl, h1, h2⟩; refine Hid.out ?_))
  have H1 := Lib.hid h1
  have H2 := Lib.hid h2
  clear h1 h2
  refine Lib.hid ?_
  go_wp2
  go_ret2
  obtain ⟨R', Q', h1, h2, h3⟩ := H1.out
  exact ⟨f, rfl, HB.out, HLT.out, HK.out R' Q' _ h1 h2 h3, H2.out⟩
theorem popH_nil (w : World) : Calls Try.prog 16 #[.pointer none] w fun e w' => e = .returned (.tuple #[.int .i64 0, .int .i64 1]) ∧ w = w' := by
  go_enter Try.func16, Try.ntmps16
  go_wp2
  go_ret2
  exact ⟨rfl, rfl⟩

theorem pushH_nil (v : Int) (w : World) : Calls Try.prog 18 #[.pointer none, .int .i64 v] w fun e w' => e = .returned (.int .i64 1) ∧ w = w' := by
  go_enter Try.func18, Try.ntmps18
  go_wp2
  go_ret
  exact ⟨rfl, rfl⟩
theorem pushH_bad (h : Held full lo hi w p A M len) (v : Int) (hv : ¬ (1 ≤ v ∧ v ≤ (A.length : Int))) :
    Calls Try.prog 18 #[p, .int .i64 v] w fun e w' => e = .returned (.int .i64 3) ∧ w = w' := by
  have hk := knows_any h v
  rw [decide_eq_false hv] at hk
  obtain ⟨g, rfl⟩ := h.ptr
  have HK := Lib.hid hk
  clear h hk hv
  go_enter Try.func18, Try.ntmps18
  go_wp2_with (go_at_call 31; refine (HK.out).mono ?_; rintro e w3 ⟨rfl, rfl⟩)
  go_ret
  exact ⟨rfl, rfl⟩
theorem pushH_in (h : Held full lo hi w p A M len) (i : Nat) (hi0 : i < A.length) (hM : M i) :
    Calls Try.prog 18 #[p, .int .i64 ((i : Int) + 1)] w fun e w' => e = .returned (.int .i64 0) ∧ w = w' := by
  have hk := knows_any h ((i : Int) + 1)
  rw [decide_eq_true (show 1 ≤ (i : Int) + 1 ∧ (i : Int) + 1 ≤ (A.length : Int) by omega)] at hk
  have hh : Calls Try.prog 20 #[p, .int .i64 ((i : Int) + 1)] w fun e w' => e = .returned (.bool true) ∧ w = w' :=
    (hasH_any h ((i : Int) + 1)).mono fun e w' ⟨b, he, hb, hw⟩ => ⟨by rw [he, hb.2 ⟨by omega, by rw [show ((i : Int) + 1 - 1).toNat = i by omega]; exact hM⟩], hw⟩
  obtain ⟨g, rfl⟩ := h.ptr
  have HK := Lib.hid hk
  have HH := Lib.hid hh
  clear h hk hh hM hi0
  go_enter Try.func18, Try.ntmps18
  go_wp2_with (first
    | (go_at_call 31; refine (HK.out).mono ?_; rintro e w3 ⟨rfl, rfl⟩)
    | (go_at_call 20; refine (HH.out).mono ?_; rintro e w3 ⟨rfl, rfl⟩))
  go_ret
  exact ⟨rfl, rfl⟩
set_option maxHeartbeats 1000000 in
theorem pushH_new (h : Held true lo hi w p A M len) (i : Nat) (hi0 : i < A.length) (hM : ¬ M i) :
    Calls Try.prog 18 #[p, .int .i64 ((i : Int) + 1)] w fun e w' => e = .returned (.int .i64 0) ∧ Held true lo hi w' p A (fun x => M x ∨ x = i) (len + 1) ∧ Out lo hi w w' := by
  have hk := knows_any h ((i : Int) + 1)
  rw [decide_eq_true (show 1 ≤ (i : Int) + 1 ∧ (i : Int) + 1 ≤ (A.length : Int) by omega)] at hk
  have hh : Calls Try.prog 20 #[p, .int .i64 ((i : Int) + 1)] w fun e w' => e = .returned (.bool false) ∧ w = w' :=
    (hasH_any h ((i : Int) + 1)).mono fun e w' ⟨b, he, hb, hw⟩ => by
      refine ⟨?_, hw⟩
      cases b with
      | false => exact he
      | true => exact absurd (by have := (hb.1 rfl).2; rwa [show ((i : Int) + 1 - 1).toNat = i by omega] at this) hM
  obtain ⟨_, hsm⟩ := h.lenle
  obtain ⟨s, R, Q, rfl, h⟩ := h
  have hp := push_any h.mem h.good i hi0 hM (h.room rfl)
  have hkeep : ∀ R' Q' w', Mem 64 lo hi w' s A R' Q' → HGood A (fun x => M x ∨ x = i) R' Q' → R'.length = R.length + 1 → Held true lo hi w' (.pointer (some ⟨s.g, 0, none⟩)) A (fun x => M x ∨ x = i) (len + 1) :=
    fun R' Q' w' h1 h2 h3 => ⟨s, R', Q', rfl, h1, h.lo_a, h2, by have := h.len; omega, h.room, h.acts⟩
  have HK := Lib.hid hk
  have HH := Lib.hid hh
  have HP := Lib.hid hp
  have HKE := Lib.hid hkeep
  clear h hk hh hM hp hkeep
  obtain ⟨sg, sga, sgt, sgp, ca, ct, cp⟩ := s
  simp only at *
  go_enter Try.func18, Try.ntmps18
  go_wp2_with (first
    | (go_at_call 31; refine (HK.out).mono ?_; rintro e w3 ⟨rfl, rfl⟩)
    | (go_at_call 20; refine (HH.out).mono ?_; rintro e w3 ⟨rfl, rfl⟩)
    | (go_at_call 34; refine (HP.out).mono ?_; rintro e w3 ⟨rfl, h1, h2⟩; refine Hid.out ?_))
  have H1 := Lib.hid h1
  have H2 := Lib.hid h2
  clear h1 h2
  refine Lib.hid ?_
  go_wp2
  go_ret
  obtain ⟨R', Q', h1, h2, h3⟩ := H1.out
  exact ⟨rfl, HKE.out R' Q' _ h1 h2 h3, H2.out⟩
end
end L
end Go.Proofs.Ytenmgkomffnjaaa
