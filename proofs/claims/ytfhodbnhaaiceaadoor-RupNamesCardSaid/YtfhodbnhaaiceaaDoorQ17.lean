/- Several texts, joined. -/
import Derived.Test.YtfhodbnhaaiceaaDoorQ16
import Derived.Test.YtfhodbnhaaiceaaDoorQ02
import Derived.WalkMore
import Derived.ScopeJumps

/- Contract of lit.Holds. -/
section
namespace Go.Proofs.YtfhodbnhaaiceaaDoor
open Go.RowKit
namespace L
open K

/-- Whether a literal holds in a model. -/
def litB (m : List Bool) (x : Int) : Bool := decide (0 < av x) && (decide (av x ≤ m.length) && (m.getD (av x - 1).toNat false == decide (0 < x)))
def holdsB (m : List Bool) (c : List Int) : Bool := c.any (litB m)

set_option maxHeartbeats 1000000 in
theorem holds_any (vm v : Value) (m : List Bool) (l : List Int) (w : World) (hl : ∀ x ∈ l, I64 x) (hM : Bools w vm m) (h : Ints w v l) :
    Calls Tryd.prog 26 #[vm, v] w fun e w' => e = .returned (.bool (holdsB m l)) ∧ w = w' := by
  obtain ⟨p, c, rfl, hg, hm, hc⟩ := h
  obtain ⟨pm, cm, rfl, hgm, hmm, hcm⟩ := hM
  have hwm : IntKind.u64.wrap (m.length : Int) = m.length := by simp only [IntKind.wrap_u64]; omega
  have HW := Lib.hid hwm
  clear hwm
  go_enter Tryd.func26, Tryd.ntmps26
  go_wp2
  go_loop [10] (fun i => ∃ k : Nat, k ≤ l.length ∧ i = .int .i64 k ∧ (∀ j, j < k → litB m (l.getD j 0) = false)) (fun i => l.length - (intOf i).toNat)
  case atStart => exact ⟨0, Nat.zero_le _, rfl, fun j hj => absurd hj (Nat.not_lt_zero _)⟩
  case round =>
    obtain ⟨k, hk, rfl, hno⟩ := hrel
    have HE := Lib.hid hno
    clear hno
    by_cases hlt : k < l.length
    · obtain ⟨b1, o1, rfl, e1⟩ := hc (by omega)
      have d1 := e1 k hlt
      have hx64 := hl _ (mem_getD hlt)
      have HA := Lib.hid (fun h => any_at (p := litB m) hlt h)
      clear hc e1 hl
      generalize hx1 : l.getD k 0 = x at d1 hx64 HA
      have HX1 := Lib.hid hx1
      clear hx1
      have hav := hx64.av
      have hav2 : av x ≤ 9223372036854775808 := by unfold I64 at hx64; unfold av; split <;> omega
      have HAV := Lib.hid hav2
      clear hav2
      generalize hv1 : av x = vx at hav HAV
      have HV1 := Lib.hid hv1
      clear hv1
      have rel : litB m x = false → (∀ j, j < k + 1 → litB m (l.getD j 0) = false) := fun hn j hj => by
        by_cases hjk : j = k
        · subst hjk; rw [HX1.out]; exact hn
        · exact HE.out j (by omega)
      have REL := Lib.hid rel
      clear rel
      by_cases hx0 : 0 < vx
      · by_cases hx2 : vx ≤ m.length
        · obtain ⟨bm, om, rfl, em⟩ := hcm (by omega)
          have dm := em (vx.toNat - 1) (by omega)
          clear em hcm
          generalize hym : m.getD (vx.toNat - 1) false = y at dm
          have e1 : (vx - 1).toNat = vx.toNat - 1 := by omega
          have HL : Hid (litB m x = (y == decide (0 < x))) := by simp [Hid, litB, HV1.out, e1, ← hym, hx0, hx2]
          clear hym e1
          cases hy : (y == decide (0 < x)) with
          | true =>
            have HF : Hid (litB m x = true) := by rw [Hid, HL.out, hy]
            go_wp2_with (go_at_call 43; refine (variable_any _ (by assumption) _).mono ?_; rintro e w' ⟨rfl, rfl⟩; rw [HV1.out])
            go_ret
            exact ⟨ret_bool (HA.out HF.out).symm, rfl⟩
          | false =>
            have HF : Hid (litB m x = false) := by rw [Hid, HL.out, hy]
            go_wp2_with (go_at_call 43; refine (variable_any _ (by assumption) _).mono ?_; rintro e w' ⟨rfl, rfl⟩; rw [HV1.out])
            go_round
            case rel => exact ⟨k + 1, by omega, by go_num, REL.out HF.out⟩
            case measure => simp [intOf]; omega
        · have HF : Hid (litB m x = false) := by simp [Hid, litB, HV1.out, hx2]
          go_wp2_with (go_at_call 43; refine (variable_any _ (by assumption) _).mono ?_; rintro e w' ⟨rfl, rfl⟩; rw [HV1.out])
          go_round
          case rel => exact ⟨k + 1, by omega, by go_num, REL.out HF.out⟩
          case measure => simp [intOf]; omega
      · have HF : Hid (litB m x = false) := by simp [Hid, litB, HV1.out, hx0]
        go_wp2_with (go_at_call 43; refine (variable_any _ (by assumption) _).mono ?_; rintro e w' ⟨rfl, rfl⟩; rw [HV1.out])
        go_round
        case rel => exact ⟨k + 1, by omega, by go_num, REL.out HF.out⟩
        case measure => simp [intOf]; omega
    · go_wp2
      go_ret
      exact ⟨ret_bool (any_upto HE.out (by omega)).symm, rfl⟩
end L
end Go.Proofs.YtfhodbnhaaiceaaDoor
end

/- Contracts of the reference's size, Less and Check, and of has. -/
section
namespace Go.Proofs.YtfhodbnhaaiceaaDoor
open Go.RowKit
namespace L
open K

set_option maxHeartbeats 400000 in
theorem size_any (x : Int) (h : I64 x) (w : World) :
    Calls Tryd.prog 54 #[.int .i64 x] w fun e w' => e = .returned (.int .u64 (av x)) ∧ w = w' := by
  by_cases h0 : x < 0
  · have e1 := Lib.hid (wrap_neg x h h0)
    have e2 : av x = -x := by simp [av, h0]
    rw [e2]; clear e2
    go_enter Tryd.func54, Tryd.ntmps54
    go_wp2
    go_ret
    exact ⟨ret_int e1.out, rfl⟩
  · have e1 := Lib.hid (wrap_pos x h (by omega))
    have e2 : av x = x := by simp [av, h0]
    rw [e2]; clear e2
    go_enter Tryd.func54, Tryd.ntmps54
    go_wp2
    go_ret
    exact ⟨ret_int e1.out, rfl⟩

set_option maxHeartbeats 1000000 in
theorem rcheck_any (n : Int) (v : Value) (l : List Int) (w : World) (hn : I64 n) (hl : ∀ x ∈ l, I64 x) (h : Ints w v l) :
    Calls Tryd.prog 33 #[.int .i64 n, v] w fun e w' => e = .returned (.int .i64 (checkE n l)) ∧ w = w' := by
  obtain ⟨p, c, rfl, hg, hm, hc⟩ := h
  unfold I64 at hn
  by_cases h1 : n < 0
  · have e : checkE n l = 3 := by simp [checkE, h1]
    rw [e]; clear e
    go_enter Tryd.func33, Tryd.ntmps33
    go_wp2
    go_ret
    exact ⟨rfl, rfl⟩
  by_cases h2 : 1048576 < n
  · have e : checkE n l = 3 := by simp [checkE, h2]
    rw [e]; clear e
    go_enter Tryd.func33, Tryd.ntmps33
    go_wp2
    go_ret
    exact ⟨rfl, rfl⟩
  by_cases h3 : 4096 < l.length
  · have e : checkE n l = 5 := by simp [checkE, h1, h2, h3]
    rw [e]; clear e
    go_enter Tryd.func33, Tryd.ntmps33
    go_wp2
    go_ret
    exact ⟨rfl, rfl⟩
  have ec : checkE n l = if l.any (fun x => decide (x = 0) || decide (n < av x)) then 3 else 0 := by simp [checkE, h1, h2, h3]
  have hwn : IntKind.u64.wrap n = n := by simp only [IntKind.wrap_u64]; omega
  have HW := Lib.hid hwn
  clear hwn
  go_enter Tryd.func33, Tryd.ntmps33
  go_wp2
  go_loop [5] (fun i => ∃ k : Nat, k ≤ l.length ∧ i = .int .i64 k ∧ (∀ j, j < k → (decide (l.getD j 0 = 0) || decide (n < av (l.getD j 0))) = false)) (fun i => l.length - (intOf i).toNat)
  case atStart => exact ⟨0, Nat.zero_le _, rfl, fun j hj => absurd hj (Nat.not_lt_zero _)⟩
  case round =>
    obtain ⟨k, hk, rfl, hno⟩ := hrel
    have HE := Lib.hid hno
    have HC := Lib.hid ec
    clear hno ec
    by_cases hlt : k < l.length
    · obtain ⟨b1, o1, rfl, e1⟩ := hc (by omega)
      have d1 := e1 k hlt
      have hx64 := hl _ (mem_getD hlt)
      have HA := Lib.hid (fun h => any_at (p := fun x => decide (x = 0) || decide (n < av x)) hlt h)
      clear hc e1 hl
      generalize hx1 : l.getD k 0 = x at d1 hx64 HA
      have HX1 := Lib.hid hx1
      clear hx1
      by_cases hx0 : x = 0
      · have hb0 : (x == 0) = true := by simp [hx0]
        have HX0 := Lib.hid hx0
        clear hx0
        go_wp2
        go_ret
        refine ⟨ret_int ?_, rfl⟩
        rw [HC.out, if_pos (HA.out (by simp [HX0.out]))]
      · have hb0 : (x == 0) = false := by simp [hx0]
        have hav := hx64.av
        by_cases hx2 : n < av x
        · go_wp2_with (go_at_call 54; refine (size_any _ (by assumption) _).mono ?_; rintro e w' ⟨rfl, rfl⟩)
          go_ret
          refine ⟨ret_int ?_, rfl⟩
          rw [HC.out, if_pos (HA.out (by simp [hx2]))]
        · go_wp2_with (go_at_call 54; refine (size_any _ (by assumption) _).mono ?_; rintro e w' ⟨rfl, rfl⟩)
          go_round
          case rel =>
            refine ⟨k + 1, by omega, by go_num, fun j hj => ?_⟩
            by_cases hjk : j = k
            · subst hjk; rw [HX1.out]; simp [hx0, hx2]
            · exact HE.out j (by omega)
          case measure => simp [intOf]; omega
    · go_wp2
      go_ret
      refine ⟨ret_int ?_, rfl⟩
      rw [HC.out, any_upto (p := fun x => decide (x = 0) || decide (n < av x)) HE.out (by omega)]
      rfl

end L
end Go.Proofs.YtfhodbnhaaiceaaDoor
end

/- Contract of the reference's Holds. -/
section
namespace Go.Proofs.YtfhodbnhaaiceaaDoor
open Go.RowKit
namespace L
open K

end L
end Go.Proofs.YtfhodbnhaaiceaaDoor
end

/- Contract of known: the clause of three literals. -/
section
namespace Go.Proofs.YtfhodbnhaaiceaaDoor
open Go.RowKit
namespace L
open K

theorem ints_lit (w : World) (l : List Int) (cs : Array Value) (n b : Nat) (hb : b = w.heap.size) (h : cs = (l.map (Value.int .i64)).toArray) (hn : n = l.length) (hm : l.length * 8 ≤ 140737488351232) : Ints (w.alloc (.cells cs 3)) (.slice (some ⟨b, 0, none⟩) n n) l := by
  subst h; subst hn; subst hb
  refine ⟨_, l.length, rfl, Nat.le_refl _, hm, fun _ => ⟨_, _, rfl, fun j hj => ?_⟩⟩
  rw [World.cell?_alloc_at _ _ _ _ rfl]
  simp [List.getD, hj]
theorem bools_lit (w : World) (l : List Bool) (cs : Array Value) (n b : Nat) (T : TypeId) (hb : b = w.heap.size) (h : cs = (l.map Value.bool).toArray) (hn : n = l.length) (hm : l.length ≤ 140737488351232) : Bools (w.alloc (.cells cs T)) (.slice (some ⟨b, 0, none⟩) n n) l := by
  subst h; subst hn; subst hb
  refine ⟨_, l.length, rfl, Nat.le_refl _, hm, fun _ => ⟨_, _, rfl, fun j hj => ?_⟩⟩
  rw [World.cell?_alloc_at _ _ _ _ rfl]
  simp [List.getD, hj]

end L
end Go.Proofs.YtfhodbnhaaiceaaDoor
end

/- Contract of Small. -/
section
namespace Go.Proofs.YtfhodbnhaaiceaaDoor
open Go.RowKit
namespace L
open K

def smallB (L : List (List Int)) : Bool := decide (L.length ≤ 60) && L.all fun l => decide (l.length ≤ 40)

theorem small_upto {L : List (List Int)} {k : Nat} (h : ∀ j, j < k → (L.getD j []).length ≤ 40) (hk : L.length ≤ k ∨ 60 ≤ k) : smallB L = decide (L.length ≤ 60) := by
  unfold smallB
  by_cases h60 : L.length ≤ 60
  · simp only [h60, decide_true, Bool.true_and, List.all_eq_true, decide_eq_true_eq]
    intro l hl
    obtain ⟨j, hj, rfl⟩ := List.getElem_of_mem hl
    have := h j (by omega)
    simpa [List.getD, hj] using this
  · simp [h60]
theorem small_at {L : List (List Int)} {k : Nat} (hk : k < L.length) (h : ¬ (L.getD k []).length ≤ 40) : smallB L = false := by
  unfold smallB
  rw [Bool.and_eq_false_iff]; right
  rw [List.all_eq_false]
  refine ⟨L.getD k [], ?_, by simpa using h⟩
  simp [List.getD, hk]

set_option maxHeartbeats 1000000 in
theorem small_any (n : Int) (v : Value) (L : List (List Int)) (w : World) (h : ListsW .i64 w v L) :
    Calls Tryd.prog 21 #[.agg #[.int .i64 n, v]] w fun e w' => e = .returned (.bool (smallB L)) ∧ Below w.heap.size w w' := by
  obtain ⟨p, c, rfl, g1, m1, hc⟩ := h
  have hmax : c ≤ 9223372036854775807 := m1
  clear m1
  go_enter Tryd.func21, Tryd.ntmps21
  go_wp2
  go_loopw [3] (fun i wr => ∃ k : Nat, k ≤ L.length ∧ k ≤ 60 ∧ i = .int .i64 k ∧ (∀ j, j < k → (L.getD j []).length ≤ 40) ∧ Below w.heap.size w wr ∧ wr.cell? ⟨w.heap.size, 1, none⟩ = some (.slice p L.length c)) (fun i _ => 60 - (intOf i).toNat)
  case atStart => exact ⟨0, Nat.zero_le _, Nat.zero_le _, rfl, fun j hj => absurd hj (Nat.not_lt_zero _), (Below.refl _ _).alloc (Nat.le_refl _) _, by simp⟩
  case round =>
    obtain ⟨k, hk, hk60, rfl, heq, hb, hbox⟩ := hrel
    have HE := Lib.hid heq
    clear heq
    by_cases hlt : k < L.length
    · by_cases h60 : k < 60
      · obtain ⟨b, o, rfl, e1⟩ := hc (by omega)
        obtain ⟨u, hu, hiu⟩ := e1 k hlt
        have d1 := (hb.cell (p := ⟨b, o + k, none⟩) (World.block_lt_of_cell? _ _ hu)).trans hu
        clear hc e1 hu
        obtain ⟨q, cu, rfl, _, hmu, _, _⟩ := hiu
        have hlu : ((L.getD k []).length : Int) ≤ 9223372036854775807 := by have : cu ≤ 9223372036854775807 := hmu; omega
        generalize hl : L.getD k [] = l at *
        have HL := Lib.hid hl
        clear hl hmu
        by_cases h40 : (l.length : Int) ≤ 40
        · go_wp2
          go_roundw
          case rel =>
            refine ⟨k + 1, by omega, by omega, by go_num, fun j hj => ?_, hb, hbox⟩
            by_cases hjk : j = k
            · subst hjk; rw [HL.out]; omega
            · exact HE.out j (by omega)
          case measure => simp [intOf]; omega
        · go_wp2
          go_ret
          exact ⟨ret_bool (small_at hlt (by rw [HL.out]; omega)).symm, hb⟩
      · go_wp2
        go_ret
        exact ⟨ret_bool (by rw [small_upto HE.out (.inr (by omega))]; simp; try omega), hb⟩
    · go_wp2
      go_ret
      exact ⟨ret_bool (by rw [small_upto HE.out (.inl (by omega))]; simp; try omega), hb⟩
end L
end Go.Proofs.YtfhodbnhaaiceaaDoor
end

/- Contracts of cnf.Check and of the reference's Check. -/
section
namespace Go.Proofs.YtfhodbnhaaiceaaDoor
open Go.RowKit
namespace L
open K

/-- The first error of a clause. -/
def firstE (n : Int) : List (List Int) → Int
  | [] => 0
  | l :: r => if checkE n l = 0 then firstE n r else checkE n l
/-- What Check returns. -/
def checkF (n : Int) (L : List (List Int)) : Int :=
  if n < 0 ∨ 1048576 < n then 3 else if 1048576 < L.length then 5 else firstE n L

theorem firstE_upto {n : Int} {L : List (List Int)} {k : Nat} (h : ∀ j, j < k → checkE n (L.getD j []) = 0) (hk : L.length ≤ k) : firstE n L = 0 := by
  induction L generalizing k with
  | nil => rfl
  | cons l r ih =>
    have h0 := h 0 (by simp at hk; omega)
    simp at h0
    simp only [firstE, h0, if_true]
    exact ih (k := k - 1) (fun j hj => by simpa using h (j + 1) (by omega)) (by simp at hk; omega)
theorem firstE_at {n : Int} {L : List (List Int)} {k : Nat} (h : ∀ j, j < k → checkE n (L.getD j []) = 0) (hk : k < L.length) (he : checkE n (L.getD k []) ≠ 0) : firstE n L = checkE n (L.getD k []) := by
  induction L generalizing k with
  | nil => simp at hk
  | cons l r ih =>
    cases k with
    | zero => simp at he ⊢; simp [firstE, he]
    | succ k =>
      have h0 := h 0 (by omega)
      simp at h0
      simp only [firstE, h0, if_true]
      simp at he ⊢
      exact ih (fun j hj => by simpa using h (j + 1) (by omega)) (by simpa using hk) he
theorem jump_ret {l : Nat} {J : Act → World → Prop} {Q : Exit → Act → World → Prop} {a : Act} {w : World} : Exit.jump l J Q .ret a w = Q .ret a w := rfl
theorem mem_getDL {L : List (List Int)} {k : Nat} (h : k < L.length) : L.getD k [] ∈ L := by
  rw [List.getD, List.getElem?_eq_getElem h]; exact List.getElem_mem h

set_option maxHeartbeats 1000000 in
theorem fcheck_any (n : Int) (v : Value) (L : List (List Int)) (w : World) (hn : I64 n) (hl : ∀ l ∈ L, ∀ x ∈ l, I64 x) (h : Lists w v L) :
    Calls Tryd.prog 41 #[.agg #[.int .i64 n, v]] w fun e w' => e = .returned (.int .i64 (checkF n L)) ∧ Below w.heap.size w w' := by
  obtain ⟨p, c, rfl, hg, hm, hc⟩ := h
  unfold I64 at hn
  by_cases h1 : n < 0
  · have e : checkF n L = 3 := by simp [checkF, h1]
    rw [e]; clear e
    go_enter Tryd.func41, Tryd.ntmps41
    go_wp2
    go_step3
    go_wp2
    rw [Exit.noGoto_ret]
    go_ret
    exact ⟨rfl, (Below.refl _ _).alloc (Nat.le_refl _) _⟩
  by_cases h2 : 1048576 < n
  · have e : checkF n L = 3 := by simp [checkF, h2]
    rw [e]; clear e
    go_enter Tryd.func41, Tryd.ntmps41
    go_wp2
    go_step3
    go_wp2
    rw [Exit.noGoto_ret]
    go_ret
    exact ⟨rfl, (Below.refl _ _).alloc (Nat.le_refl _) _⟩
  by_cases h3 : (1048576 : Int) < L.length
  · have e : checkF n L = 5 := by simp [checkF, h1, h2]; omega
    rw [e]; clear e
    go_enter Tryd.func41, Tryd.ntmps41
    go_wp2
    go_step3
    go_wp2
    rw [Exit.noGoto_ret]
    go_ret
    exact ⟨rfl, (Below.refl _ _).alloc (Nat.le_refl _) _⟩
  have ec : checkF n L = firstE n L := by simp [checkF, h1, h2]; omega
  have hn' : I64 n := hn
  rw [ec]; clear ec
  go_enter Tryd.func41, Tryd.ntmps41
  go_wp2
  refine wp_scope_jumps 0 (fun a' w' => Below w.heap.size w w' ∧ ∃ (E : Int) (u0 u1 u2 u4 u5 u6 u7 u8 u9 u10 u11 u12 u13 u14 u15 u16 u17 u18 u19 u20 u21 u22 u23 u24 u25 u26 u27 u28 u29 u30 u31 u32 : Value), a' = { tmps := #[u0, u1, u2, .int .i64 E, u4, u5, u6, u7, u8, u9, u10, u11, u12, u13, u14, u15, u16, u17, u18, u19, u20, u21, u22, u23, u24, u25, u26, u27, u28, u29, u30, u31, u32], defers := [] } ∧ E = firstE n L) (fun _ _ => 0) rfl ?_ ?_
  · go_wp2
    go_loopw [3, 5, 21] (fun s3 _ i wr => ∃ k : Nat, k ≤ L.length ∧ i = .int .i64 k ∧ s3 = .int .i64 0 ∧ (∀ j, j < k → checkE n (L.getD j []) = 0) ∧ Below w.heap.size w wr ∧ wr.cell? ⟨w.heap.size, 0, none⟩ = some (.int .i64 n)) (fun _ _ i _ => L.length - (intOf i).toNat)
    case atStart => exact ⟨0, Nat.zero_le _, rfl, rfl, fun j hj => absurd hj (Nat.not_lt_zero _), (Below.refl _ _).alloc (Nat.le_refl _) _, by simp⟩
    case round =>
      obtain ⟨k, hk, rfl, rfl, heq, hb, hbox⟩ := hrel
      have HE := Lib.hid heq
      have HL := Lib.hid hl
      clear heq hl
      by_cases hlt : k < L.length
      · obtain ⟨b, o, rfl, e1⟩ := hc (by omega)
        obtain ⟨u, hu, hiu⟩ := e1 k hlt
        have hck := check_any n u (L.getD k []) wr hn' (HL.out _ (mem_getDL hlt)) (hiu.below hb)
        have d1 := (hb.cell (p := ⟨b, o + k, none⟩) (World.block_lt_of_cell? _ _ hu)).trans hu
        have he0 := Lib.hid (fun (hq : checkE n (L.getD k []) ≠ 0) => firstE_at HE.out hlt hq)
        clear hc e1 hu hiu
        generalize hq : checkE n (L.getD k []) = q at *
        have HQ := Lib.hid hq
        clear hq
        by_cases hz : q = 0
        · subst hz
          go_wp2_with fail
          refine hck.mono ?_
          rintro e w' ⟨rfl, rfl⟩
          go_wp2
          go_roundw
          case rel =>
            refine ⟨k + 1, by omega, by go_num, rfl, fun j hj => ?_, hb, hbox⟩
            by_cases hjk : j = k
            · subst hjk; exact HQ.out
            · exact HE.out j (by omega)
          case measure => simp [intOf]; omega
        · have hz' : (q != 0) = true := by simpa using hz
          go_wp2_with fail
          refine hck.mono ?_
          rintro e w' ⟨rfl, rfl⟩
          go_wp2
          go_step3
          refine ⟨rfl, hb, q, _, _, _, _, _, _, _, _, _, _, _, _, _, _, _, _, _, _, _, _, _, _, _, _, _, _, _, _, _, _, _, _, rfl, (he0.out hz).symm⟩
      · go_wp2
        go_step3
        go_wp2
        rw [jump_ret]
        go_ret
        exact ⟨ret_int (firstE_upto HE.out (by omega)).symm, hb⟩
  · rintro a' w' ⟨hb, E, u0, u1, u2, u4, u5, u6, u7, u8, u9, u10, u11, u12, u13, u14, u15, u16, u17, u18, u19, u20, u21, u22, u23, u24, u25, u26, u27, u28, u29, u30, u31, u32, rfl, rfl⟩
    go_wp2
    rw [jump_ret]
    go_ret
    exact ⟨rfl, hb⟩
end L
end Go.Proofs.YtfhodbnhaaiceaaDoor
end
