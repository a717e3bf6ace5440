/- Several texts, joined. -/
import Derived.Test.YtfhodbnhaaiceaaDoorQ02
import Derived.Test.YtfhodbnhaaiceaaDoorQ18
import Derived.Test.YtfhodbnhaaiceaaDoorQ09

/- Regions that draw their order and whose callees may allocate: one walk, in the class of the worlds that are as this one below a block. -/
section
namespace Go.Proofs.YtfhodbnhaaiceaaDoor
open Go.RowKit
namespace K

/-- A world that is as 'w' below block B. -/
structure Later (B : Nat) (w : World) where
  W : World
  ok : Below B w W

instance (B : Nat) (w : World) : Nonempty (Later B w) := ⟨⟨w, Below.refl _ _⟩⟩

theorem wp_region_later {P : Program} {B : Nat} {w0 : World} {id : Nat} {Q : Exit → Act → World → Prop} {a : Act} {w : World} {l : List Oper} (hm : P.follows .mixedOrders = true) (hB : Region.lexB .any l.toArray = true) (hC : Below B w0 w)
    (h : wpQuiet P l.toArray (fun w' => ∃ x : Later B w0, w' = x.W) (fun a' => ∀ w', (∃ x : Later B w0, w' = x.W) → Q .normal a' w') l a) : (Code.region id l.toArray true).wp P Q a w :=
  wp_region_quiet hm hB ⟨⟨_, hC.drew⟩, rfl⟩ h

theorem later_of {P : Program} {B : Nat} {w0 : World} {f : FuncId} {args : Array Value} {v : Value} (x : Later B w0) (h : Calls P f args x.W fun e w' => e = .returned v ∧ Below B x.W w') :
    Calls P f args x.W fun e w'' => e = .returned v ∧ ∃ y : Later B w0, w'' = y.W :=
  h.mono fun _ _ ⟨he, hb⟩ => ⟨he, ⟨_, x.ok.trans hb⟩, rfl⟩
theorem later_mono {P : Program} {B : Nat} {w0 : World} {f : FuncId} {args : Array Value} {v : Value} (x : Later B w0) (hB : B ≤ w0.heap.size) (h : Calls P f args x.W fun e w' => e = .returned v ∧ Below x.W.heap.size x.W w') :
    Calls P f args x.W fun e w'' => e = .returned v ∧ ∃ y : Later B w0, w'' = y.W :=
  later_of x (h.mono fun _ _ ⟨he, hb⟩ => ⟨he, hb.mono (Nat.le_trans hB x.ok.size)⟩)
theorem later_same {P : Program} {B : Nat} {w0 : World} {f : FuncId} {args : Array Value} {v : Value} (x : Later B w0) (h : Calls P f args x.W fun e w' => e = .returned v ∧ x.W = w') :
    Calls P f args x.W fun e w'' => e = .returned v ∧ ∃ y : Later B w0, w'' = y.W :=
  h.mono fun _ _ ⟨he, hb⟩ => ⟨he, x, hb.symm⟩
theorem Later.cell {B : Nat} {w0 : World} (x : Later B w0) {p : Addr} (h : p.block < B) : x.W.cell? p = w0.cell? p := x.ok.cell h
theorem Ints.later {B : Nat} {w0 : World} {v : Value} {l : List Int} (h : Ints w0 v l) (hB : w0.heap.size ≤ B) (x : Later B w0) : Ints x.W v l := h.below (x.ok.mono hB)
theorem Bools.later {B : Nat} {w0 : World} {v : Value} {l : List Bool} (h : Bools w0 v l) (hB : w0.heap.size ≤ B) (x : Later B w0) : Bools x.W v l := h.below (x.ok.mono hB)
theorem Lists.later {B : Nat} {w0 : World} {v : Value} {l : List (List Int)} (h : Lists w0 v l) (hB : w0.heap.size ≤ B) (x : Later B w0) : Lists x.W v l := h.below (x.ok.mono hB)
end K
end Go.Proofs.YtfhodbnhaaiceaaDoor
end

/- Contracts of First: the closure, slices.IndexFunc, cnf.First, the reference's First. -/
section
namespace Go.Proofs.YtfhodbnhaaiceaaDoor
open Go.RowKit
namespace L
open K

/-- The index of the first clause that does not hold. -/
def firstI (m : List Bool) (L : List (List Int)) : Int := if L.all (holdsB m) then -1 else (L.findIdx fun l => !holdsB m l : Nat)
theorem firstI_upto {m : List Bool} {L : List (List Int)} {k : Nat} (h : ∀ j, j < k → holdsB m (L.getD j []) = true) (hk : L.length ≤ k) : firstI m L = -1 := by
  unfold firstI
  rw [if_pos]
  rw [List.all_eq_true]
  intro l hl
  obtain ⟨j, hj, rfl⟩ := List.getElem_of_mem hl
  have := h j (by omega)
  simpa [List.getD, hj] using this
theorem firstI_at {m : List Bool} {L : List (List Int)} {k : Nat} (h : ∀ j, j < k → holdsB m (L.getD j []) = true) (hk : k < L.length) (hf : holdsB m (L.getD k []) = false) : firstI m L = k := by
  unfold firstI
  have hf' : holdsB m L[k] = false := by simpa [List.getD, hk] using hf
  rw [if_neg]
  · congr 1
    rw [List.findIdx_eq hk]
    refine ⟨by simp [hf'], fun j hj => ?_⟩
    have hj' : j < L.length := by omega
    have := h j hj
    simpa [List.getD, hj'] using this
  · rw [List.all_eq_true]
    intro h2
    have := h2 _ (List.getElem_mem hk)
    rw [hf'] at this
    cases this
/-- What First returns. -/
def firstF (n : Int) (L : List (List Int)) (m : List Bool) : Int × Int :=
  if checkF n L ≠ 0 then (0, checkF n L) else if (m.length : Int) ≠ n then (0, 2) else (firstI m L, 0)

set_option maxHeartbeats 1000000 in
theorem fclosure_any (bx : Nat) (vm v : Value) (m : List Bool) (l : List Int) (w : World) (hl : ∀ x ∈ l, I64 x) (hM : Bools w vm m) (h : Ints w v l) (hb : w.cell? ⟨bx, 0, none⟩ = some vm) :
    Calls Tryd.prog 42 #[v, .pointer (some ⟨bx, 0, none⟩)] w fun e w' => e = .returned (.bool (!holdsB m l)) ∧ w = w' := by
  have hc := holds_any vm v m l w hl hM h
  clear hM h hl
  go_enter Tryd.func42, Tryd.ntmps42
  go_wp2_with fail
  refine hc.mono ?_
  rintro e w' ⟨rfl, rfl⟩
  go_wp2
  go_ret
  exact ⟨rfl, rfl⟩

set_option maxHeartbeats 1000000 in
theorem index_any (bx : Nat) (vm v : Value) (m : List Bool) (L : List (List Int)) (w : World) (hl : ∀ l ∈ L, ∀ x ∈ l, I64 x) (hM : Bools w vm m) (h : Lists w v L) (hbx : w.cell? ⟨bx, 0, none⟩ = some vm) :
    Calls Tryd.prog 37 #[v, .func (.func 42) #[] #[.pointer (some ⟨bx, 0, none⟩)]] w fun e w' => e = .returned (.int .i64 (firstI m L)) ∧ w = w' := by
  obtain ⟨p, c, rfl, hg, hm, hc⟩ := h
  go_enter Tryd.func37, Tryd.ntmps37
  go_wp2
  go_loop [5, 8] (fun _ i => ∃ k : Nat, k ≤ L.length ∧ i = .int .i64 k ∧ (∀ j, j < k → holdsB m (L.getD j []) = true)) (fun _ i => L.length - (intOf i).toNat)
  case atStart => exact ⟨0, Nat.zero_le _, rfl, fun j hj => absurd hj (Nat.not_lt_zero _)⟩
  case round =>
    obtain ⟨k, hk, rfl, heq⟩ := hrel
    have HE := Lib.hid heq
    have HL := Lib.hid hl
    clear heq hl
    by_cases hlt : k < L.length
    · obtain ⟨b, o, rfl, e1⟩ := hc (by omega)
      obtain ⟨u, hu, hiu⟩ := e1 k hlt
      have hck := fclosure_any bx vm u m (L.getD k []) w (HL.out _ (mem_getDL hlt)) hM hiu hbx
      have he0 := Lib.hid (fun (hq : holdsB m (L.getD k []) = false) => firstI_at HE.out hlt hq)
      clear hc e1 hiu hM
      generalize hq : holdsB m (L.getD k []) = q at *
      have HQ := Lib.hid hq
      clear hq
      cases q with
      | true =>
        go_wp2_with fail
        refine hck.mono ?_
        rintro e w' ⟨rfl, rfl⟩
        go_wp2
        go_round
        case rel =>
          refine ⟨k + 1, by omega, by go_num, fun j hj => ?_⟩
          by_cases hjk : j = k
          · subst hjk; exact HQ.out
          · exact HE.out j (by omega)
        case measure => simp [intOf]; omega
      | false =>
        go_wp2_with fail
        refine hck.mono ?_
        rintro e w' ⟨rfl, rfl⟩
        go_wp2
        go_ret
        exact ⟨ret_int (he0.out trivial).symm, rfl⟩
    · go_wp2
      go_ret
      exact ⟨ret_int (firstI_upto HE.out (by omega)).symm, rfl⟩
end L
end Go.Proofs.YtfhodbnhaaiceaaDoor
end

/- Contracts of cnf.First and of the reference's First. -/
section
namespace Go.Proofs.YtfhodbnhaaiceaaDoor
open Go.RowKit
namespace L
open K

theorem ret_two {a b c d : Int} (h : (a, b) = (c, d)) : Ending.returned (.tuple #[.int .i64 a, .int .i64 b]) = .returned (.tuple #[.int .i64 c, .int .i64 d]) := by
  cases h; rfl

set_option maxHeartbeats 1000000 in
theorem first_any (n : Int) (v vm : Value) (L : List (List Int)) (m : List Bool) (w : World) (hn : I64 n) (hl : ∀ l ∈ L, ∀ x ∈ l, I64 x) (h : Lists w v L) (hM : Bools w vm m) :
    Calls Tryd.prog 25 #[.agg #[.int .i64 n, v], vm] w fun e w' => e = .returned (.tuple #[.int .i64 (firstF n L m).1, .int .i64 (firstF n L m).2]) ∧ Below w.heap.size w w' := by
  have hck := fun W (hW : Below w.heap.size w W) => fcheck_any n v L W hn hl (h.below hW)
  have hix := fun W (hW : Below w.heap.size w W) bx hb => index_any bx vm v m L W hl (hM.below hW) (h.below hW) hb
  obtain ⟨p, c, rfl, hg, hm, hc⟩ := h
  obtain ⟨pm, cm, rfl, hgm, hmm, hcm⟩ := hM
  clear hc hcm hl
  have HF : firstF n L m = if checkF n L ≠ 0 then (0, checkF n L) else if (m.length : Int) ≠ n then (0, 2) else (firstI m L, 0) := rfl
  generalize firstF n L m = R at *
  have HF := Lib.hid HF
  have HC := Lib.hid hck
  have HI := Lib.hid hix
  clear hck hix
  rename_i HF0
  clear HF0
  generalize hq : checkF n L = q at *
  have HQ := Lib.hid hq
  clear hq
  by_cases h1 : q = 0
  · subst h1
    by_cases h2 : (m.length : Int) = n
    · have h2' : ((m.length : Int) != n) = false := by simpa using h2
      have eR : R = (firstI m L, 0) := by have := HF.out; simpa [h2] using this
      subst eR
      have H2 := Lib.hid h2
      clear h2 HF
      go_enter Tryd.func25, Tryd.ntmps25
      go_wp2_with fail
      refine (HC.out _ (((Below.refl _ _).alloc (Nat.le_refl _) _).alloc (by simp) _)).mono ?_
      rintro e w1 ⟨rfl, hb1⟩
      have hb := (((Below.refl w.heap.size w).alloc (Nat.le_refl _) (.cells #[.int .i64 n, .slice p L.length c] 26)).alloc (by simp) (.cells #[.slice pm m.length cm] 46)).trans (hb1.mono (by simp; omega))
      have k0 : w1.cell? ⟨w.heap.size, 0, none⟩ = some (.int .i64 n) := (hb1.cell (p := ⟨w.heap.size, 0, none⟩) (by simp; omega)).trans (by simp)
      have k1 : w1.cell? ⟨w.heap.size, 1, none⟩ = some (.slice p L.length c) := (hb1.cell (p := ⟨w.heap.size, 1, none⟩) (by simp; omega)).trans (by simp)
      have k2 : w1.cell? ⟨w.heap.size + 1, 0, none⟩ = some (.slice pm m.length cm) := (hb1.cell (p := ⟨w.heap.size + 1, 0, none⟩) (by simp)).trans (by simp)
      go_wp2_with fail
      refine (HI.out _ hb _ k2).mono ?_
      rintro e w2 ⟨rfl, rfl⟩
      go_wp2
      go_ret2
      exact ⟨rfl, hb⟩
    · have h2' : ((m.length : Int) != n) = true := by simpa using h2
      have eR : R = (0, 2) := by have := HF.out; simpa [h2] using this
      subst eR
      clear HF
      go_enter Tryd.func25, Tryd.ntmps25
      go_wp2_with fail
      refine (HC.out _ (((Below.refl _ _).alloc (Nat.le_refl _) _).alloc (by simp) _)).mono ?_
      rintro e w1 ⟨rfl, hb1⟩
      have hb := (((Below.refl w.heap.size w).alloc (Nat.le_refl _) (.cells #[.int .i64 n, .slice p L.length c] 26)).alloc (by simp) (.cells #[.slice pm m.length cm] 46)).trans (hb1.mono (by simp; omega))
      have k0 : w1.cell? ⟨w.heap.size, 0, none⟩ = some (.int .i64 n) := (hb1.cell (p := ⟨w.heap.size, 0, none⟩) (by simp; omega)).trans (by simp)
      have k2 : w1.cell? ⟨w.heap.size + 1, 0, none⟩ = some (.slice pm m.length cm) := (hb1.cell (p := ⟨w.heap.size + 1, 0, none⟩) (by simp)).trans (by simp)
      go_wp2
      go_ret2
      exact ⟨rfl, hb⟩
  · have h1' : (q != 0) = true := by simpa using h1
    have eR : R = (0, q) := by have := HF.out; simpa [h1] using this
    subst eR
    clear HF
    go_enter Tryd.func25, Tryd.ntmps25
    go_wp2_with fail
    refine (HC.out _ (((Below.refl _ _).alloc (Nat.le_refl _) _).alloc (by simp) _)).mono ?_
    rintro e w1 ⟨rfl, hb1⟩
    have hb := (((Below.refl w.heap.size w).alloc (Nat.le_refl _) (.cells #[.int .i64 n, .slice p L.length c] 26)).alloc (by simp) (.cells #[.slice pm m.length cm] 46)).trans (hb1.mono (by simp; omega))
    go_wp2
    go_ret2
    exact ⟨rfl, hb⟩

end L
end Go.Proofs.YtfhodbnhaaiceaaDoor
end

/- Contracts of three and known. -/
section
namespace Go.Proofs.YtfhodbnhaaiceaaDoor
open Go.RowKit
namespace K
theorem res_cell {fn : Func} {t : Tmp} {T : TypeId} (h : fn.results = #[.cell t T]) {tmps : Array Value} {P : Program} {w : World} {a : Addr} {v : Value} (ht : tmps.getD t undef = .pointer (some a)) (hl : (loadVar T a).run P w = .ok v w) : (results fn tmps).run P w = .ok v w := by
  have ht' : tmps[t]?.getD undef = .pointer (some a) := by simpa using ht
  simp [results, h, ht', hl, asAddr]
theorem res_cell_tmp {fn : Func} {t u : Tmp} {T : TypeId} (h : fn.results = #[.cell t T, .tmp u]) {tmps : Array Value} {P : Program} {w : World} {a : Addr} {v : Value} (ht : tmps.getD t undef = .pointer (some a)) (hl : (loadVar T a).run P w = .ok v w) : (results fn tmps).run P w = .ok (.tuple #[v, tmps.getD u undef]) w := by
  have ht' : tmps[t]?.getD undef = .pointer (some a) := by simpa using ht
  simp [results, h, ht', hl, asAddr]
theorem cell_old {w : World} {o : Obj} {p : Addr} {x : Option Value} (h : p.block < w.heap.size) (hx : w.cell? p = x) : (w.alloc o).cell? p = x := (((Below.refl _ w).alloc (Nat.le_refl _) o).cell h).trans hx
theorem cell_new {w : World} {cs : Array Value} {T : TypeId} {b j : Nat} {x : Option Value} (h : b = w.heap.size) (hx : cs[j]? = x) : (w.alloc (.cells cs T)).cell? ⟨b, j, none⟩ = x := (World.cell?_alloc_at _ _ _ _ (by rw [h])).trans hx
end K
namespace L
open K

theorem three_ok : checkF 3 [[1, 2], [-1, 3], [-2, -3]] = 0 ∧ firstI [true, false, true] [[1, 2], [-1, 3], [-2, -3]] = -1 := by decide
theorem three_i64 : ∀ l ∈ [[1, 2], [-1, 3], [-2, -3]], ∀ x ∈ (l : List Int), I64 x := by simp [I64]

end L
end Go.Proofs.YtfhodbnhaaiceaaDoor
end

/- Contracts of the laws' helpers: units, fails, three, known. -/
section
namespace Go.Proofs.YtfhodbnhaaiceaaDoor
open Go.RowKit Go.Conc
namespace L
set_option maxRecDepth 100000
open K

/-- What Units returns, as one. -/
noncomputable def unitsR (n : Int) (cs : List (List Int)) (A : List Int) : List Int × Bool × Int :=
  if checkU n cs A ≠ 0 then ([], false, checkU n cs A) else match U.unitsOf n.toNat cs A with | none => ([], true, 0) | some l => (l, false, 0)
theorem unitsOf_len {n : Nat} {cs : List (List Int)} {A l : List Int} (h : U.unitsOf n cs A = some l) : l.length ≤ n + 1 := by
  unfold U.unitsOf at h
  split at h
  · cases h
  · cases h; exact U.lits_length _ _
theorem upost_r {w w' : World} {n : Int} {cs : List (List Int)} {A : List Int} {r : Value} (h : UPost w w' n cs A r) :
    ∃ vl, r = .tuple #[vl, .bool (unitsR n cs A).2.1, .int .i64 (unitsR n cs A).2.2] ∧ OwnI w' w.heap.size vl (unitsR n cs A).1 ∧ (unitsR n cs A).1.length ≤ 1048577 := by
  unfold unitsR
  rcases h with ⟨h1, h2⟩ | ⟨h1, h2, h3⟩ | ⟨h1, l, vl, h2, h3, h4⟩
  · rw [if_pos h1]
    exact ⟨_, h2, OwnI.nil _ _, by simp⟩
  · rw [if_neg (by simp [h1]), h2]
    exact ⟨_, h3, OwnI.nil _ _, by simp⟩
  · rw [if_neg (by simp [h1]), h2]
    refine ⟨vl, h3, h4, ?_⟩
    obtain ⟨m, rfl, hm, _⟩ := checkU_ok h1
    have := unitsOf_len h2
    simp at this ⊢
    omega
theorem unitsR_ok {n : Nat} {cs : List (List Int)} {A l : List Int} (h : checkU n cs A = 0) (h2 : U.unitsOf n cs A = some l) : unitsR n cs A = (l, false, 0) := by
  unfold unitsR
  rw [if_neg (by simp [h])]
  simp [h2]
theorem unitsR_fails {n : Nat} {cs : List (List Int)} {A : List Int} (h : checkU n cs A = 0) (h2 : U.unitsOf n cs A = none) : unitsR n cs A = ([], true, 0) := by
  unfold unitsR
  rw [if_neg (by simp [h])]
  simp [h2]
theorem unitsR_bad {n : Int} {cs : List (List Int)} {A : List Int} {e : Int} (h : checkU n cs A = e) (h2 : e ≠ 0) : unitsR n cs A = ([], false, e) := by
  unfold unitsR
  rw [if_pos (by rw [h]; exact h2), h]

noncomputable def okU (n : Int) (cs : List (List Int)) (A want : List Int) : Bool := decide ((unitsR n cs A).1 = want) && !(unitsR n cs A).2.1 && decide ((unitsR n cs A).2.2 = 0)
noncomputable def okF (n : Int) (cs : List (List Int)) (A : List Int) : Bool := decide ((unitsR n cs A).1.length = 0) && (unitsR n cs A).2.1 && decide ((unitsR n cs A).2.2 = 0)

theorem threeL_i64 : ∀ c ∈ U.threeL, ∀ x ∈ c, I64 x := by simp [I64, U.threeL]
theorem okU_known : okU 3 U.threeL [1] [1, -2, 3] = true := by
  unfold okU
  rw [show unitsR 3 U.threeL [1] = ([1, -2, 3], false, 0) from unitsR_ok (n := 3) (by decide) U.three_known]
  rfl

end L
end Go.Proofs.YtfhodbnhaaiceaaDoor
end
