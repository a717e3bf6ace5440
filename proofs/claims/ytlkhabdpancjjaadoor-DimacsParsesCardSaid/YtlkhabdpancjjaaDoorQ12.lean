/- Several texts, joined. -/
import Derived.Test.YtlkhabdpancjjaaDoorQ11
import Derived.WalkMore
import Derived.ScopeJumps
import Derived.Test.YtlkhabdpancjjaaDoorQ04

/- Contracts of cnf.Check and of the reference's Check. -/
section
namespace Go.Proofs.YtlkhabdpancjjaaDoor
open Go.RowKit
namespace L
open K

/-- The first error of a clause. -/
def firstE (n : Int) : List (List Int) → Int
  | [] => 0
  | l :: r => if checkE n l = 0 then firstE n r else checkE n l
/-- What Check returns. -/
def checkF (n : Int) (L : List (List Int)) : Int :=
  if n < 0 ∨ 1048576 < n then 3 else if 1048576 < L.length then 5 else firstE n L

theorem firstE_upto {n : Int} {L : List (List Int)} {k : Nat} (h : ∀ j, j < k → checkE n (L.getD j []) = 0) (hk : L.length ≤ k) : firstE n L = 0 := by
  induction L generalizing k with
  | nil => rfl
  | cons l r ih =>
    have h0 := h 0 (by simp at hk; omega)
    simp at h0
    simp only [firstE, h0, if_true]
    exact ih (k := k - 1) (fun j hj => by simpa using h (j + 1) (by omega)) (by simp at hk; omega)
theorem firstE_at {n : Int} {L : List (List Int)} {k : Nat} (h : ∀ j, j < k → checkE n (L.getD j []) = 0) (hk : k < L.length) (he : checkE n (L.getD k []) ≠ 0) : firstE n L = checkE n (L.getD k []) := by
  induction L generalizing k with
  | nil => simp at hk
  | cons l r ih =>
    cases k with
    | zero => simp at he ⊢; simp [firstE, he]
    | succ k =>
      have h0 := h 0 (by omega)
      simp at h0
      simp only [firstE, h0, if_true]
      simp at he ⊢
      exact ih (fun j hj => by simpa using h (j + 1) (by omega)) (by simpa using hk) he
theorem jump_ret {l : Nat} {J : Act → World → Prop} {Q : Exit → Act → World → Prop} {a : Act} {w : World} : Exit.jump l J Q .ret a w = Q .ret a w := rfl
theorem mem_getDL {L : List (List Int)} {k : Nat} (h : k < L.length) : L.getD k [] ∈ L := by
  rw [List.getD, List.getElem?_eq_getElem h]; exact List.getElem_mem h

set_option maxHeartbeats 1000000 in
theorem fcheck_any (n : Int) (v : Value) (L : List (List Int)) (w : World) (hn : I64 n) (hl : ∀ l ∈ L, ∀ x ∈ l, I64 x) (h : Lists w v L) :
    Calls Tryd.prog 19 #[.agg #[.int .i64 n, v]] w fun e w' => e = .returned (.int .i64 (checkF n L)) ∧ Below w.heap.size w w' := by
  obtain ⟨p, c, rfl, hg, hm, hc⟩ := h
  unfold I64 at hn
  by_cases h1 : n < 0
  · have e : checkF n L = 3 := by simp [checkF, h1]
    rw [e]; clear e
    go_enter Tryd.func19, Tryd.ntmps19
    go_wp2
    go_step3
    go_wp2
    rw [Exit.noGoto_ret]
    go_ret
    exact ⟨rfl, (Below.refl _ _).alloc (Nat.le_refl _) _⟩
  by_cases h2 : 1048576 < n
  · have e : checkF n L = 3 := by simp [checkF, h2]
    rw [e]; clear e
    go_enter Tryd.func19, Tryd.ntmps19
    go_wp2
    go_step3
    go_wp2
    rw [Exit.noGoto_ret]
    go_ret
    exact ⟨rfl, (Below.refl _ _).alloc (Nat.le_refl _) _⟩
  by_cases h3 : (1048576 : Int) < L.length
  · have e : checkF n L = 5 := by simp [checkF, h1, h2]; omega
    rw [e]; clear e
    go_enter Tryd.func19, Tryd.ntmps19
    go_wp2
    go_step3
    go_wp2
    rw [Exit.noGoto_ret]
    go_ret
    exact ⟨rfl, (Below.refl _ _).alloc (Nat.le_refl _) _⟩
  have ec : checkF n L = firstE n L := by simp [checkF, h1, h2]; omega
  have hn' : I64 n := hn
  rw [ec]; clear ec
  go_enter Tryd.func19, Tryd.ntmps19
  go_wp2
  refine wp_scope_jumps 0 (fun a' w' => Below w.heap.size w w' ∧ ∃ (E : Int) (u0 u1 u2 u4 u5 u6 u7 u8 u9 u10 u11 u12 u13 u14 u15 u16 u17 u18 u19 u20 u21 u22 u23 u24 u25 u26 u27 u28 u29 u30 u31 u32 : Value), a' = { tmps := #[u0, u1, u2, .int .i64 E, u4, u5, u6, u7, u8, u9, u10, u11, u12, u13, u14, u15, u16, u17, u18, u19, u20, u21, u22, u23, u24, u25, u26, u27, u28, u29, u30, u31, u32], defers := [] } ∧ E = firstE n L) (fun _ _ => 0) rfl ?_ ?_
  · go_wp2
    go_loopw [3, 5, 21] (fun s3 _ i wr => ∃ k : Nat, k ≤ L.length ∧ i = .int .i64 k ∧ s3 = .int .i64 0 ∧ (∀ j, j < k → checkE n (L.getD j []) = 0) ∧ Below w.heap.size w wr ∧ wr.cell? ⟨w.heap.size, 0, none⟩ = some (.int .i64 n)) (fun _ _ i _ => L.length - (intOf i).toNat)
    case atStart => exact ⟨0, Nat.zero_le _, rfl, rfl, fun j hj => absurd hj (Nat.not_lt_zero _), (Below.refl _ _).alloc (Nat.le_refl _) _, by simp⟩
    case round =>
      obtain ⟨k, hk, rfl, rfl, heq, hb, hbox⟩ := hrel
      have HE := Lib.hid heq
      have HL := Lib.hid hl
      clear heq hl
      by_cases hlt : k < L.length
      · obtain ⟨b, o, rfl, e1⟩ := hc (by omega)
        obtain ⟨u, hu, hiu⟩ := e1 k hlt
        have hck := check_any n u (L.getD k []) wr hn' (HL.out _ (mem_getDL hlt)) (hiu.below hb)
        have d1 := (hb.cell (p := ⟨b, o + k, none⟩) (World.block_lt_of_cell? _ _ hu)).trans hu
        have he0 := Lib.hid (fun (hq : checkE n (L.getD k []) ≠ 0) => firstE_at HE.out hlt hq)
        clear hc e1 hu hiu
        generalize hq : checkE n (L.getD k []) = q at *
        have HQ := Lib.hid hq
        clear hq
        by_cases hz : q = 0
        · subst hz
          go_wp2_with fail
          refine hck.mono ?_
          rintro e w' ⟨rfl, rfl⟩
          go_wp2
          go_roundw
          case rel =>
            refine ⟨k + 1, by omega, by go_num, rfl, fun j hj => ?_, hb, hbox⟩
            by_cases hjk : j = k
            · subst hjk; exact HQ.out
            · exact HE.out j (by omega)
          case measure => simp [intOf]; omega
        · have hz' : (q != 0) = true := by simpa using hz
          go_wp2_with fail
          refine hck.mono ?_
          rintro e w' ⟨rfl, rfl⟩
          go_wp2
          go_step3
          refine ⟨rfl, hb, q, _, _, _, _, _, _, _, _, _, _, _, _, _, _, _, _, _, _, _, _, _, _, _, _, _, _, _, _, _, _, _, _, rfl, (he0.out hz).symm⟩
      · go_wp2
        go_step3
        go_wp2
        rw [jump_ret]
        go_ret
        exact ⟨ret_int (firstE_upto HE.out (by omega)).symm, hb⟩
  · rintro a' w' ⟨hb, E, u0, u1, u2, u4, u5, u6, u7, u8, u9, u10, u11, u12, u13, u14, u15, u16, u17, u18, u19, u20, u21, u22, u23, u24, u25, u26, u27, u28, u29, u30, u31, u32, rfl, rfl⟩
    go_wp2
    rw [jump_ret]
    go_ret
    exact ⟨rfl, hb⟩
end L
end Go.Proofs.YtlkhabdpancjjaaDoor
end

/- Contract of the reference's Check of formulas. -/
section
namespace Go.Proofs.YtlkhabdpancjjaaDoor
open Go.RowKit
namespace L
open K

set_option maxHeartbeats 1000000 in
theorem rfcheck_any (n : Int) (v : Value) (L : List (List Int)) (w : World) (hn : I64 n) (hl : ∀ l ∈ L, ∀ x ∈ l, I64 x) (h : Lists w v L) :
    Calls Tryd.prog 24 #[.agg #[.int .i64 n, v]] w fun e w' => e = .returned (.int .i64 (checkF n L)) ∧ Below w.heap.size w w' := by
  obtain ⟨p, c, rfl, hg, hm, hc⟩ := h
  unfold I64 at hn
  by_cases h1 : n < 0
  · have e : checkF n L = 3 := by simp [checkF, h1]
    rw [e]; clear e
    go_enter Tryd.func24, Tryd.ntmps24
    go_wp2
    go_ret
    exact ⟨rfl, (Below.refl _ _).alloc (Nat.le_refl _) _⟩
  by_cases h2 : 1048576 < n
  · have e : checkF n L = 3 := by simp [checkF, h2]
    rw [e]; clear e
    go_enter Tryd.func24, Tryd.ntmps24
    go_wp2
    go_ret
    exact ⟨rfl, (Below.refl _ _).alloc (Nat.le_refl _) _⟩
  by_cases h3 : (1048576 : Int) < L.length
  · have e : checkF n L = 5 := by simp [checkF, h1, h2]; omega
    rw [e]; clear e
    go_enter Tryd.func24, Tryd.ntmps24
    go_wp2
    go_ret
    exact ⟨rfl, (Below.refl _ _).alloc (Nat.le_refl _) _⟩
  have ec : checkF n L = firstE n L := by simp [checkF, h1, h2]; omega
  have hn' : I64 n := hn
  rw [ec]; clear ec
  go_enter Tryd.func24, Tryd.ntmps24
  go_wp2
  go_loopw [3] (fun i wr => ∃ k : Nat, k ≤ L.length ∧ i = .int .i64 k ∧ (∀ j, j < k → checkE n (L.getD j []) = 0) ∧ Below w.heap.size w wr ∧ wr.cell? ⟨w.heap.size, 0, none⟩ = some (.int .i64 n) ∧ wr.cell? ⟨w.heap.size, 1, none⟩ = some (.slice p L.length c)) (fun i _ => L.length - (intOf i).toNat)
  case atStart => exact ⟨0, Nat.zero_le _, rfl, fun j hj => absurd hj (Nat.not_lt_zero _), (Below.refl _ _).alloc (Nat.le_refl _) _, by simp, by simp⟩
  case round =>
    obtain ⟨k, hk, rfl, heq, hb, hbox, hbox1⟩ := hrel
    have HE := Lib.hid heq
    have HL := Lib.hid hl
    clear heq hl
    by_cases hlt : k < L.length
    · obtain ⟨b, o, rfl, e1⟩ := hc (by omega)
      obtain ⟨u, hu, hiu⟩ := e1 k hlt
      have hck := fun W (hW : Below w.heap.size w W) => rcheck_any n u (L.getD k []) W hn' (HL.out _ (mem_getDL hlt)) (hiu.below hW)
      have d1 := (hb.cell (p := ⟨b, o + k, none⟩) (World.block_lt_of_cell? _ _ hu)).trans hu
      have he0 := Lib.hid (fun (hq : checkE n (L.getD k []) ≠ 0) => firstE_at HE.out hlt hq)
      clear hc e1 hu hiu
      generalize hq : checkE n (L.getD k []) = q at *
      have HQ := Lib.hid hq
      have HC := Lib.hid hck
      clear hq hck
      by_cases hz : q = 0
      · subst hz
        go_wp2
        go_quiet ((go_at_call 34; exact Calls.quiet_of_same ((HC.out _ (below_drewN hb _)).mono fun _ _ h => ⟨h.1, h.2.symm⟩)))
        go_wp2
        go_roundw
        case rel =>
          refine ⟨k + 1, by omega, by go_num, fun j hj => ?_, below_drewN hb _, hbox, hbox1⟩
          by_cases hjk : j = k
          · subst hjk; exact HQ.out
          · exact HE.out j (by omega)
        case measure => simp [intOf]; omega
      · have hz' : (q != 0) = true := by simpa using hz
        go_wp2
        go_quiet ((go_at_call 34; exact Calls.quiet_of_same ((HC.out _ (below_drewN hb _)).mono fun _ _ h => ⟨h.1, h.2.symm⟩)))
        go_wp2
        go_ret
        exact ⟨ret_int (he0.out hz).symm, below_drewN hb _⟩
    · go_wp2
      go_ret
      exact ⟨ret_int (firstE_upto HE.out (by omega)).symm, hb⟩
end L
end Go.Proofs.YtlkhabdpancjjaaDoor
end

/- Regions that draw their order and whose callees may allocate: one walk, in the class of the worlds that are as this one below a block. -/
section
namespace Go.Proofs.YtlkhabdpancjjaaDoor
open Go.RowKit
namespace K

/-- A world that is as 'w' below block B. -/
structure Later (B : Nat) (w : World) where
  W : World
  ok : Below B w W

instance (B : Nat) (w : World) : Nonempty (Later B w) := ⟨⟨w, Below.refl _ _⟩⟩

theorem wp_region_later {P : Program} {B : Nat} {w0 : World} {id : Nat} {Q : Exit → Act → World → Prop} {a : Act} {w : World} {l : List Oper} (hm : P.follows .mixedOrders = true) (hB : Region.lexB .any l.toArray = true) (hC : Below B w0 w)
    (h : wpQuiet P l.toArray (fun w' => ∃ x : Later B w0, w' = x.W) (fun a' => ∀ w', (∃ x : Later B w0, w' = x.W) → Q .normal a' w') l a) : (Code.region id l.toArray true).wp P Q a w :=
  wp_region_quiet hm hB ⟨⟨_, hC.drew⟩, rfl⟩ h

theorem later_of {P : Program} {B : Nat} {w0 : World} {f : FuncId} {args : Array Value} {v : Value} (x : Later B w0) (h : Calls P f args x.W fun e w' => e = .returned v ∧ Below B x.W w') :
    Calls P f args x.W fun e w'' => e = .returned v ∧ ∃ y : Later B w0, w'' = y.W :=
  h.mono fun _ _ ⟨he, hb⟩ => ⟨he, ⟨_, x.ok.trans hb⟩, rfl⟩
theorem later_mono {P : Program} {B : Nat} {w0 : World} {f : FuncId} {args : Array Value} {v : Value} (x : Later B w0) (hB : B ≤ w0.heap.size) (h : Calls P f args x.W fun e w' => e = .returned v ∧ Below x.W.heap.size x.W w') :
    Calls P f args x.W fun e w'' => e = .returned v ∧ ∃ y : Later B w0, w'' = y.W :=
  later_of x (h.mono fun _ _ ⟨he, hb⟩ => ⟨he, hb.mono (Nat.le_trans hB x.ok.size)⟩)
theorem later_same {P : Program} {B : Nat} {w0 : World} {f : FuncId} {args : Array Value} {v : Value} (x : Later B w0) (h : Calls P f args x.W fun e w' => e = .returned v ∧ x.W = w') :
    Calls P f args x.W fun e w'' => e = .returned v ∧ ∃ y : Later B w0, w'' = y.W :=
  h.mono fun _ _ ⟨he, hb⟩ => ⟨he, x, hb.symm⟩
theorem Later.cell {B : Nat} {w0 : World} (x : Later B w0) {p : Addr} (h : p.block < B) : x.W.cell? p = w0.cell? p := x.ok.cell h
theorem Ints.later {B : Nat} {w0 : World} {v : Value} {l : List Int} (h : Ints w0 v l) (hB : w0.heap.size ≤ B) (x : Later B w0) : Ints x.W v l := h.below (x.ok.mono hB)
theorem Bools.later {B : Nat} {w0 : World} {v : Value} {l : List Bool} (h : Bools w0 v l) (hB : w0.heap.size ≤ B) (x : Later B w0) : Bools x.W v l := h.below (x.ok.mono hB)
theorem Lists.later {B : Nat} {w0 : World} {v : Value} {l : List (List Int)} (h : Lists w0 v l) (hB : w0.heap.size ≤ B) (x : Later B w0) : Lists x.W v l := h.below (x.ok.mono hB)
end K
end Go.Proofs.YtlkhabdpancjjaaDoor
end

/- Contracts of First: the closure, slices.IndexFunc, cnf.First, the reference's First. -/
section
namespace Go.Proofs.YtlkhabdpancjjaaDoor
open Go.RowKit
namespace L
open K

/-- The index of the first clause that does not hold. -/
def firstI (m : List Bool) (L : List (List Int)) : Int := if L.all (holdsB m) then -1 else (L.findIdx fun l => !holdsB m l : Nat)
theorem firstI_upto {m : List Bool} {L : List (List Int)} {k : Nat} (h : ∀ j, j < k → holdsB m (L.getD j []) = true) (hk : L.length ≤ k) : firstI m L = -1 := by
  unfold firstI
  rw [if_pos]
  rw [List.all_eq_true]
  intro l hl
  obtain ⟨j, hj, rfl⟩ := List.getElem_of_mem hl
  have := h j (by omega)
  simpa [List.getD, hj] using this
theorem firstI_at {m : List Bool} {L : List (List Int)} {k : Nat} (h : ∀ j, j < k → holdsB m (L.getD j []) = true) (hk : k < L.length) (hf : holdsB m (L.getD k []) = false) : firstI m L = k := by
  unfold firstI
  have hf' : holdsB m L[k] = false := by simpa [List.getD, hk] using hf
  rw [if_neg]
  · congr 1
    rw [List.findIdx_eq hk]
    refine ⟨by simp [hf'], fun j hj => ?_⟩
    have hj' : j < L.length := by omega
    have := h j hj
    simpa [List.getD, hj'] using this
  · rw [List.all_eq_true]
    intro h2
    have := h2 _ (List.getElem_mem hk)
    rw [hf'] at this
    cases this
/-- What First returns. -/
def firstF (n : Int) (L : List (List Int)) (m : List Bool) : Int × Int :=
  if checkF n L ≠ 0 then (0, checkF n L) else if (m.length : Int) ≠ n then (0, 2) else (firstI m L, 0)

end L
end Go.Proofs.YtlkhabdpancjjaaDoor
end

/- Contracts of cnf.First and of the reference's First. -/
section
namespace Go.Proofs.YtlkhabdpancjjaaDoor
open Go.RowKit
namespace L
open K

theorem ret_two {a b c d : Int} (h : (a, b) = (c, d)) : Ending.returned (.tuple #[.int .i64 a, .int .i64 b]) = .returned (.tuple #[.int .i64 c, .int .i64 d]) := by
  cases h; rfl

end L
end Go.Proofs.YtlkhabdpancjjaaDoor
end

/- Contracts of three and known. -/
section
namespace Go.Proofs.YtlkhabdpancjjaaDoor
open Go.RowKit
namespace K
theorem res_cell {fn : Func} {t : Tmp} {T : TypeId} (h : fn.results = #[.cell t T]) {tmps : Array Value} {P : Program} {w : World} {a : Addr} {v : Value} (ht : tmps.getD t undef = .pointer (some a)) (hl : (loadVar T a).run P w = .ok v w) : (results fn tmps).run P w = .ok v w := by
  have ht' : tmps[t]?.getD undef = .pointer (some a) := by simpa using ht
  simp [results, h, ht', hl, asAddr]
theorem res_cell_tmp {fn : Func} {t u : Tmp} {T : TypeId} (h : fn.results = #[.cell t T, .tmp u]) {tmps : Array Value} {P : Program} {w : World} {a : Addr} {v : Value} (ht : tmps.getD t undef = .pointer (some a)) (hl : (loadVar T a).run P w = .ok v w) : (results fn tmps).run P w = .ok (.tuple #[v, tmps.getD u undef]) w := by
  have ht' : tmps[t]?.getD undef = .pointer (some a) := by simpa using ht
  simp [results, h, ht', hl, asAddr]
theorem cell_old {w : World} {o : Obj} {p : Addr} {x : Option Value} (h : p.block < w.heap.size) (hx : w.cell? p = x) : (w.alloc o).cell? p = x := (((Below.refl _ w).alloc (Nat.le_refl _) o).cell h).trans hx
theorem cell_new {w : World} {cs : Array Value} {T : TypeId} {b j : Nat} {x : Option Value} (h : b = w.heap.size) (hx : cs[j]? = x) : (w.alloc (.cells cs T)).cell? ⟨b, j, none⟩ = x := (World.cell?_alloc_at _ _ _ _ (by rw [h])).trans hx
end K
namespace L
open K

theorem three_ok : checkF 3 [[1, 2], [-1, 3], [-2, -3]] = 0 ∧ firstI [true, false, true] [[1, 2], [-1, 3], [-2, -3]] = -1 := by decide
theorem three_i64 : ∀ l ∈ [[1, 2], [-1, 3], [-2, -3]], ∀ x ∈ (l : List Int), I64 x := by simp [I64]

end L
end Go.Proofs.YtlkhabdpancjjaaDoor
end
