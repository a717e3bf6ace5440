/- Several texts, joined. -/
import Derived.Test.YtfhodbnhaaiceaaDoorQ08
import Derived.Test.YtfhodbnhaaiceaaDoorQ05
import Derived.StringKeys

/- Closed cases of unit propagation, by reckoning; the reference's unit, plain. -/
section
namespace Go.Proofs.YtfhodbnhaaiceaaDoor
namespace U

/-- Literals that follow at once. -/
def more (cs : List (List Int)) (K : List Int) : List Int := cs.flatMap fun c => c.filter fun x => c.all fun y => y == x || K.contains (-y)
def clo (cs : List (List Int)) (A : List Int) : Nat → List Int
  | 0 => A
  | n + 1 => clo cs A n ++ more cs (clo cs A n)
theorem clo_der (cs : List (List Int)) (A : List Int) : ∀ n, ∀ x ∈ clo cs A n, Der cs A x
  | 0, x, h => .assume h
  | n + 1, x, h => by
    simp only [clo, List.mem_append] at h
    rcases h with h | h
    · exact clo_der cs A n x h
    · simp only [more, List.mem_flatMap, List.mem_filter, List.all_eq_true, Bool.or_eq_true, beq_iff_eq, List.contains_iff_mem] at h
      obtain ⟨c, hc, hx, hy⟩ := h
      exact .unit hc hx fun y hyc hne => clo_der cs A n _ ((hy y hyc).resolve_left hne)
def closedB (cs : List (List Int)) (A K : List Int) : Bool :=
  A.all (fun x => K.contains x) && K.all (fun x => !K.contains (-x)) && cs.all fun c => c.any (fun x => K.contains x) || c.any fun a => c.any fun b => a != b && !K.contains (-a) && !K.contains (-b)
theorem closed_of {cs : List (List Int)} {A K : List Int} (h : closedB cs A K = true) : Closed cs A (· ∈ K) := by
  simp only [closedB, Bool.and_eq_true, List.all_eq_true, List.contains_iff_mem, Bool.or_eq_true, List.any_eq_true, bne_iff_ne, ne_eq, Bool.not_eq_true', Bool.eq_false_iff] at h
  obtain ⟨⟨h1, h2⟩, h3⟩ := h
  refine ⟨h1, fun x hx hn => h2 x hx hn, fun c hc => ?_⟩
  rcases h3 c hc with ⟨t, ht, hk⟩ | ⟨a, ha, b, hb, ⟨hab, h4⟩, h5⟩
  · exact .inl ⟨t, ht, hk⟩
  · exact .inr ⟨a, b, ha, hb, hab, h4, h5⟩
def litsB (n : Nat) (K : List Int) : List Int := ((List.range (n + 1)).map fun v : Nat => if K.contains (v : Int) then (v : Int) else if K.contains (-(v : Int)) then -(v : Int) else 0).filter (· ≠ 0)
theorem lits_list (n : Nat) (K : List Int) : lits n (· ∈ K) = litsB n K := by
  unfold lits litsB
  congr 1
  apply List.map_congr_left
  intro v _
  unfold pickL
  by_cases h1 : (v : Int) ∈ K
  · simp [h1]
  · by_cases h2 : -(v : Int) ∈ K
    · simp [h1, h2]
    · simp [h1, h2]
theorem unitsOf_run (n k : Nat) (cs : List (List Int)) (A : List Int) (h : closedB cs A (clo cs A k) = true) : unitsOf n cs A = some (litsB n (clo cs A k)) := by
  rw [unitsOf_closed (closed_of h) (clo_der cs A k), lits_list]
def badB (cs : List (List Int)) (A K : List Int) : Bool := A.any (fun x => A.contains (-x)) || cs.any fun c => c.all fun y => K.contains (-y)
theorem unitsOf_fails (n k : Nat) (cs : List (List Int)) (A : List Int) (h : badB cs A (clo cs A k) = true) : unitsOf n cs A = none := by
  apply unitsOf_bad
  simp only [badB, Bool.or_eq_true, List.any_eq_true, List.contains_iff_mem, List.all_eq_true] at h
  rcases h with ⟨x, h1, h2⟩ | ⟨c, hc, hy⟩
  · exact .inl ⟨x, h1, h2⟩
  · exact .inr ⟨c, hc, fun y hyc => clo_der cs A k _ (hy y hyc)⟩

def threeL : List (List Int) := [[1, 2], [-1, 3], [-2, -3]]
theorem three_known : unitsOf 3 threeL [1] = some [1, -2, 3] := unitsOf_run 3 3 _ _ (by decide)

/-! ### the reference's unit -/
def unitP (K : Int → Bool) : Int → List Int → Int × Bool
  | last, [] => (last, decide (last ≠ 0))
  | last, x :: r => if K (-x) || x == last then unitP K last r else if K x || last != 0 then (0, true) else unitP K x r

/-- A clause from which nothing follows. -/
def OkC (K : Int → Bool) (c : List Int) : Prop := (∃ t ∈ c, K t = true) ∨ ∃ a b, a ∈ c ∧ b ∈ c ∧ a ≠ b ∧ K (-a) = false ∧ K (-b) = false

theorem unitP_spec (K : Int → Bool) (c : List Int) (hz : ∀ x ∈ c, x ≠ 0) : ∀ (r : List Int) (last : Int), (∀ x ∈ r, x ∈ c) → (last = 0 ∨ (last ∈ c ∧ K last = false ∧ K (-last) = false)) →
    let p := unitP K last r
    (p.2 = false → p.1 = 0 ∧ last = 0 ∧ ∀ y ∈ r, K (-y) = true) ∧
    (p.2 = true → p.1 ≠ 0 → p.1 ∈ c ∧ K p.1 = false ∧ K (-p.1) = false ∧ (last ≠ 0 → p.1 = last) ∧ ∀ y ∈ r, y ≠ p.1 → K (-y) = true) ∧
    (p.2 = true → p.1 = 0 → OkC K c)
  | [], last, _, hl => by
    simp only [unitP]
    refine ⟨fun h => ?_, fun h h1 => ?_, fun h h1 => ?_⟩
    · simp at h
      exact ⟨h, h, by simp⟩
    · rcases hl with h2 | ⟨a, b, d⟩
      · exact absurd h2 h1
      · exact ⟨a, b, d, fun _ => by simp, by simp⟩
    · simp at h
      exact absurd h1 h
  | x :: r, last, hr, hl => by
    have hrr : ∀ y ∈ r, y ∈ c := fun y hy => hr y (by simp [hy])
    simp only [unitP]
    by_cases h1 : (K (-x) || x == last) = true
    · rw [if_pos h1]
      obtain ⟨a, b, d⟩ := unitP_spec K c hz r last hrr hl
      simp only [Bool.or_eq_true, beq_iff_eq] at h1
      have hx0 := hz x (hr x (by simp))
      refine ⟨fun h => ?_, fun h h2 => ?_, d⟩
      · obtain ⟨e1, e2, e3⟩ := a h
        refine ⟨e1, e2, fun y hy => ?_⟩
        rcases List.mem_cons.1 hy with rfl | hy
        · exact h1.resolve_right (fun e => hx0 (e.trans e2))
        · exact e3 y hy
      · obtain ⟨e1, e2, e3, e4, e5⟩ := b h h2
        refine ⟨e1, e2, e3, e4, fun y hy hne => ?_⟩
        rcases List.mem_cons.1 hy with rfl | hy
        · refine h1.resolve_right (fun e => hne ?_)
          rw [e4 (by rw [← e]; exact hx0), e]
        · exact e5 y hy hne
    · rw [if_neg h1]
      simp only [Bool.or_eq_true, beq_iff_eq, not_or, Bool.not_eq_true] at h1
      by_cases h2 : (K x || last != 0) = true
      · rw [if_pos h2]
        refine ⟨fun h => absurd h (by simp), fun _ h => absurd rfl h, fun _ _ => ?_⟩
        simp only [Bool.or_eq_true, bne_iff_ne] at h2
        rcases h2 with h3 | h3
        · exact .inl ⟨x, hr x (by simp), h3⟩
        · rcases hl with h4 | ⟨h4, _, h5⟩
          · exact absurd h4 h3
          · exact .inr ⟨last, x, h4, hr x (by simp), fun e => h1.2 e.symm, h5, h1.1⟩
      · rw [if_neg h2]
        simp only [Bool.or_eq_true, bne_iff_ne, not_or, Bool.not_eq_true, ne_eq, Classical.not_not] at h2
        have hx0 := hz x (hr x (by simp))
        obtain ⟨a, b, d⟩ := unitP_spec K c hz r x hrr (.inr ⟨hr x (by simp), h2.1, h1.1⟩)
        refine ⟨fun h => absurd (a h).2.1 hx0, fun h h3 => ?_, d⟩
        obtain ⟨e1, e2, e3, e4, e5⟩ := b h h3
        refine ⟨e1, e2, e3, fun h4 => absurd h2.2 h4, fun y hy hne => ?_⟩
        rcases List.mem_cons.1 hy with rfl | hy
        · exact absurd (e4 hx0).symm hne
        · exact e5 y hy hne

/-- The literal of a variable. -/
def pickB (K : Int → Bool) (v : Nat) : Int := if K (v : Int) then v else if K (-(v : Int)) then -(v : Int) else 0
/-- What the reference knows. -/
structure RInv (n : Nat) (cs : List (List Int)) (A : List Int) (K : Int → Bool) (sz : Nat) : Prop where
  snd : ∀ y, K y = true → Der cs A y
  con : ∀ y, K y = true → K (-y) = false
  rng : ∀ y, K y = true → y ≠ 0 ∧ y.natAbs ≤ n
  cnt : sz + unk (pickB K) n = n

theorem pickB_upd {K : Int → Bool} {l : Int} (h0 : l ≠ 0) (hk : K l = false) (hn : K (-l) = false) (_hz : K 0 = false) : pickB (upd K l true) = upd (pickB K) l.natAbs l ∧ pickB K l.natAbs = 0 := by
  constructor
  · funext v
    unfold pickB
    by_cases e : v = l.natAbs
    · subst e
      rw [upd_same]
      rcases Int.le_total 0 l with h | h
      · have e : (l.natAbs : Int) = l := by omega
        rw [e, upd_same]; rfl
      · have e : (l.natAbs : Int) = -l := by omega
        rw [e, upd_ne (by omega), hn, Int.neg_neg, upd_same]; rfl
    · rw [upd_ne e, upd_ne (show (v : Int) ≠ l by omega), upd_ne (show -(v : Int) ≠ l by omega)]
  · unfold pickB
    rcases Int.le_total 0 l with h | h
    · have e : (l.natAbs : Int) = l := by omega
      rw [e, hk, hn]; rfl
    · have e : (l.natAbs : Int) = -l := by omega
      rw [e, hn, Int.neg_neg, hk]; rfl

section
variable {n : Nat} {cs : List (List Int)} {A : List Int} {K : Int → Bool} {sz : Nat}
theorem RInv.zero (h : RInv n cs A K sz) : K 0 = false := by
  cases e : K 0
  · rfl
  · exact absurd rfl (h.rng 0 e).1
theorem RInv.le (h : RInv n cs A K sz) : sz ≤ n := by have := h.cnt; omega
theorem RInv.start (n : Nat) (cs : List (List Int)) (A : List Int) : RInv n cs A (fun _ => false) 0 := by
  have e : pickB (fun _ => false) = fun _ => 0 := by funext v; simp [pickB]
  exact ⟨fun y h => absurd h (by simp), fun y h => absurd h (by simp), fun y h => absurd h (by simp), by rw [e, unk_zero]; omega⟩
theorem RInv.add (h : RInv n cs A K sz) {l : Int} (h0 : l ≠ 0) (hl : l.natAbs ≤ n) (hk : K l = false) (hn : K (-l) = false) (hd : Der cs A l) : RInv n cs A (upd K l true) (sz + 1) := by
  obtain ⟨e1, e2⟩ := pickB_upd h0 hk hn h.zero
  refine ⟨fun y hy => ?_, fun y hy => ?_, fun y hy => ?_, ?_⟩
  · by_cases e : y = l
    · exact e ▸ hd
    · rw [upd_ne e] at hy; exact h.snd y hy
  · by_cases e : y = l
    · rw [e, upd_ne (by omega)]; exact hn
    · rw [upd_ne e] at hy
      by_cases e3 : -y = l
      · rw [← e3] at hn; rw [Int.neg_neg] at hn; rw [hn] at hy; cases hy
      · rw [upd_ne e3]; exact h.con y hy
  · by_cases e : y = l
    · exact e ▸ ⟨h0, hl⟩
    · rw [upd_ne e] at hy; exact h.rng y hy
  · rw [e1]
    have := unk_upd (n := n) e2 h0 (by omega) hl
    have := h.cnt
    omega
theorem RInv.same {l : Int} (hk : K l = true) : upd K l true = K := by
  funext y
  by_cases e : y = l
  · rw [e, upd_same, hk]
  · rw [upd_ne e]
theorem RInv.closed (h : RInv n cs A K sz) (ha : ∀ a ∈ A, K a = true) (hc : ∀ c ∈ cs, OkC K c) : Closed cs A fun y => K y = true := by
  refine ⟨ha, fun x hx h2 => absurd h2 (by rw [h.con x hx]; simp), fun c hcc => ?_⟩
  rcases hc c hcc with h1 | ⟨a, b, h1, h2, h3, h4, h5⟩
  · exact .inl h1
  · exact .inr ⟨a, b, h1, h2, h3, by rw [h4]; simp, by rw [h5]; simp⟩
/-- What follows from a clause. -/
theorem RInv.unit (h : RInv n cs A K sz) {c : List Int} (hc : c ∈ cs) (hv : Val n c) :
    ((unitP K 0 c).2 = false → Bad cs A) ∧
    ((unitP K 0 c).2 = true → (unitP K 0 c).1 ≠ 0 → RInv n cs A (upd K (unitP K 0 c).1 true) (sz + 1) ∧ K (unitP K 0 c).1 = false ∧ (unitP K 0 c).1.natAbs ≤ n) ∧
    ((unitP K 0 c).2 = true → (unitP K 0 c).1 = 0 → OkC K c) := by
  obtain ⟨a, b, d⟩ := unitP_spec K c (fun x hx => (hv x hx).1) c 0 (fun x hx => hx) (.inl rfl)
  refine ⟨fun h1 => .inr ⟨c, hc, fun y hy => h.snd _ ((a h1).2.2 y hy)⟩, fun h1 h2 => ?_, d⟩
  obtain ⟨e1, e2, e3, _, e5⟩ := b h1 h2
  exact ⟨h.add h2 (hv _ e1).2 e2 e3 (.unit hc e1 fun y hy hne => h.snd _ (e5 y hy hne)), e2, (hv _ e1).2⟩
end
end U
end Go.Proofs.YtfhodbnhaaiceaaDoor
end

/- A map from ints to bools of the call's own; contract of the reference's unit. -/
section
namespace Go.Proofs.YtfhodbnhaaiceaaDoor
open Go.RowKit Go.Conc
open Go.ChangeMaps Go.MapKept Go.Maps
namespace K
open L

theorem own_exact {w : World} {P : Program} {k : TypeId} {R : Value → Option (DataW Value × List MemPlace)} {b N : Nat} {D : DataW Value} (h : w.ownsMap P k R b N D) : w.ownsMap P k R b (Maps.size D) D := by
  obtain ⟨es, clock, hb, F, hs, rfl⟩ := h
  exact ⟨es, clock, hb, F, by simp [Maps.size, length_sorted], rfl⟩

/-- Block b is a set of ints, as a map to bools. -/
def MapB (w : World) (b sz : Nat) (S : Int → Bool) : Prop := ∃ D : DataW Value, w.ownsMap Tryd.prog 3 heldR b sz D ∧ Maps.size D = sz ∧ ∀ k, I64 k → D.atKey (.int .i64 k) (.held (.bool false)) = .held (.bool (S k)) ∧ Maps.has D (.int .i64 k) = S k

theorem zeroBool (W : World) : (zeroValue 4).run Tryd.prog W = .ok (.bool false) W := by kernel_rfl
section
variable {w w' : World} {b sz : Nat} {S : Int → Bool}
theorem MapB.made (w : World) : MapB (w.alloc (.map #[] 0)) w.heap.size 0 (fun _ => false) := ⟨_, World.ownsMap_made w _ _ _, rfl, fun _ _ => ⟨rfl, rfl⟩⟩
theorem MapB.lt (h : MapB w b sz S) : b < w.heap.size := by obtain ⟨D, h, _⟩ := h; exact h.lt
theorem MapB.of_block (h : MapB w b sz S) (e : w'.heap[b]? = w.heap[b]?) : MapB w' b sz S := by
  obtain ⟨D, ⟨es, clock, hb, F, hs, hD⟩, h2⟩ := h
  exact ⟨D, ⟨es, clock, e.trans hb, F, hs, hD⟩, h2⟩
theorem MapB.below (h : MapB w b sz S) (hb : Below w.heap.size w w') : MapB w' b sz S := h.of_block (hb.block b h.lt)
theorem MapB.look (h : MapB w b sz S) {k : Int} (hk : I64 k) : (Instr.lookup 89 (.map (some b)) (.int .i64 k) false).run Tryd.prog w = .ok (.bool (S k)) w := by
  obtain ⟨D, h, _, h2⟩ := h
  obtain ⟨v, ps, hr, hv⟩ := h.lookup keyI Tryd.underlying89 (zeroBool w) (zd := .held (.bool false)) (zp := []) rfl (key_int hk)
  rw [(h2 k hk).1] at hv
  simp only [heldR, Option.some.injEq, Prod.mk.injEq, DataW.held.injEq] at hv
  rw [hr, hv.1]
theorem MapB.len (h : MapB w b sz S) (ty : TypeId) : (Builtin.len_ #[89] ty #[.map (some b)]).run Tryd.prog w = .ok (.int .i64 sz) w := by
  obtain ⟨D, h, hs, _⟩ := h
  rw [h.len Tryd.underlying89 ty, hs]
theorem MapB.store (h : MapB w b sz S) (hn : sz < maxLen) {k : Int} (hk : I64 k) :
    ∃ w', (Instr.mapUpdate 89 (.map (some b)) (.int .i64 k) (.bool true)).run Tryd.prog w = .ok () w' ∧ MapB w' b (if S k then sz else sz + 1) (U.upd S k true) ∧ w.grownBy w' (some b) := by
  obtain ⟨D, h, hs, h2⟩ := h
  have ht := h.tidy keyI
  obtain ⟨w', hr, hm, hg⟩ := h.update keyI Tryd.underlying89 hn (key_int hk) (val := .bool true) (d := .held (.bool true)) (ps := []) rfl
  have hsz : Maps.size (D.put (.int .i64 k) (.held (.bool true))) = if S k then sz else sz + 1 := by
    rw [Go.Maps.size_put ht, (h2 k hk).2, hs]
  have hm' := own_exact hm
  rw [hsz] at hm'
  refine ⟨w', hr, ⟨_, hm', hsz, fun k' hk' => ?_⟩, hg⟩
  by_cases e : k' = k
  · subst e
    rw [U.upd_same]
    exact ⟨Go.Maps.atKey_put_same h.isMap (by simp [WideAt.IsKeyLit]) _ _, Go.Maps.has_put_same h.isMap (by simp [WideAt.IsKeyLit]) _⟩
  · rw [U.upd_ne e, Go.Maps.atKey_put_other (by simpa using e), Go.Maps.has_put_other (by simpa using e)]
    exact h2 k' hk'
end
end K
namespace L
open K

theorem unitP_at {S : Int → Bool} {last : Int} {l : List Int} {m : Nat} (h : m < l.length) :
    U.unitP S last (l.drop m) = if S (-(l.getD m 0)) || l.getD m 0 == last then U.unitP S last (l.drop (m + 1)) else if S (l.getD m 0) || last != 0 then (0, true) else U.unitP S (l.getD m 0) (l.drop (m + 1)) := by
  have e : l.drop m = l.getD m 0 :: l.drop (m + 1) := by
    rw [List.drop_eq_getElem_cons h]
    simp [List.getD, h]
  rw [e]
  rfl

set_option maxHeartbeats 2000000 in
theorem runit_any {w : World} {b sz : Nat} {S : Int → Bool} (h : MapB w b sz S) (v : Value) (c : List Int) (hc : Ints w v c) (hI : ∀ x ∈ c, I64 x ∧ I64 (-x)) :
    Calls Tryd.prog 63 #[.map (some b), v] w fun e w' => e = .returned (.tuple #[.int .i64 (U.unitP S 0 c).1, .bool (U.unitP S 0 c).2]) ∧ w = w' := by
  obtain ⟨pp, cap, rfl, hcap, hlim, hcell⟩ := hc
  have HM := Lib.hid h
  have HI := Lib.hid hI
  obtain ⟨r, er⟩ : ∃ r, U.unitP S 0 c = r := ⟨_, rfl⟩
  rw [er]
  have HR := Lib.hid er
  clear h hI er
  go_enter Tryd.func63, Tryd.ntmps63
  go_wp2
  go_loop [6, 7] (fun la i => ∃ (k : Nat) (last : Int), k ≤ c.length ∧ i = .int .i64 k ∧ la = .int .i64 last ∧ U.unitP S 0 c = U.unitP S last (c.drop k)) (fun _ i => c.length - (intOf i).toNat)
  case atStart => exact ⟨0, 0, Nat.zero_le _, rfl, rfl, rfl⟩
  case round =>
    obtain ⟨k, last, hk, rfl, rfl, heq⟩ := hrel
    have HE := Lib.hid heq
    clear heq
    by_cases hlt : k < c.length
    · have hlt' : (k : Int) < (c.length : Int) := by omega
      obtain ⟨b1, o1, rfl, e1⟩ := hcell (by omega)
      have d1 := e1 k hlt
      clear hcell e1
      have HST := Lib.hid (unitP_at (S := S) (last := last) hlt)
      obtain ⟨x, ex⟩ : ∃ x, c.getD k 0 = x := ⟨_, rfl⟩
      have hxI := HI.out x (by rw [← ex]; exact U.getD_mem hlt)
      rw [ex] at d1 HST
      have hneg : IntKind.i64.wrap (-x) = -x := by have := hxI.2; unfold I64 at this; simp only [IntKind.wrap_i64]; omega
      have hl1 := HM.out.look hxI.2
      have hl2 := HM.out.look hxI.1
      clear ex hxI
      by_cases a1 : S (-x) = true
      · rw [a1] at hl1
        have HN : Hid (U.unitP S 0 c = U.unitP S last (c.drop (k + 1))) := Lib.hid (by rw [HE.out, HST.out, a1]; rfl)
        clear a1
        go_wp2
        go_round
        case rel => exact ⟨k + 1, last, by omega, by go_num, rfl, HN.out⟩
        case measure => simp [intOf]; omega
      · have a1 : S (-x) = false := by simpa using a1
        rw [a1] at hl1
        by_cases a2 : x = last
        · have e2 : (x == last) = true := by simp [a2]
          have HN : Hid (U.unitP S 0 c = U.unitP S last (c.drop (k + 1))) := Lib.hid (by rw [HE.out, HST.out, a1, e2]; rfl)
          clear a1 a2
          go_wp2
          go_round
          case rel => exact ⟨k + 1, last, by omega, by go_num, rfl, HN.out⟩
          case measure => simp [intOf]; omega
        · have e2 : (x == last) = false := by simp [a2]
          by_cases a3 : S x = true
          · rw [a3] at hl2
            have HN : Hid (U.unitP S 0 c = (0, true)) := Lib.hid (by rw [HE.out, HST.out, a1, e2, a3]; rfl)
            clear a1 a2 a3
            go_wp2
            go_ret2
            exact ⟨by rw [← HR.out, HN.out]; rfl, rfl⟩
          · have a3 : S x = false := by simpa using a3
            rw [a3] at hl2
            by_cases a4 : last = 0
            · have e4 : (last != (0 : Int)) = false := by simp [a4]
              have HN : Hid (U.unitP S 0 c = U.unitP S x (c.drop (k + 1))) := Lib.hid (by rw [HE.out, HST.out, a1, e2, a3, e4]; rfl)
              clear a1 a2 a3 a4
              go_wp2
              go_round
              case rel => exact ⟨k + 1, x, by omega, by go_num, rfl, HN.out⟩
              case measure => simp [intOf]; omega
            · have e4 : (last != (0 : Int)) = true := by simp [a4]
              have HN : Hid (U.unitP S 0 c = (0, true)) := Lib.hid (by rw [HE.out, HST.out, a1, e2, a3, e4]; rfl)
              clear a1 a2 a3 a4
              go_wp2
              go_ret2
              exact ⟨by rw [← HR.out, HN.out]; rfl, rfl⟩
    · have hlt' : ¬ (k : Int) < (c.length : Int) := by omega
      have HN : Hid (U.unitP S 0 c = (last, decide (last ≠ 0))) := Lib.hid (by
        rw [HE.out, show k = c.length by omega, List.drop_length]; rfl)
      clear hcell
      go_wp2
      go_ret2
      refine ⟨?_, rfl⟩
      rw [← HR.out, HN.out]
      by_cases a : last = 0
      · subst a; rfl
      · simp [a, bne_iff_ne]
end L
end Go.Proofs.YtfhodbnhaaiceaaDoor
end

/- A map from strings to bools of the call's own; the premises in memory. -/
section
namespace Go.Proofs.YtfhodbnhaaiceaaDoor
open Go.RowKit Go.Conc RA
open Go.ChangeMaps Go.MapKept Go.Maps
namespace K
open L
set_option maxRecDepth 100000

theorem keyS : Keyed Tryd.prog 9 := Go.Maps.string_keyed Tryd.underlying9
theorem key_str {l : List UInt8} (h : l.length ≤ maxLen) : keyOf Tryd.prog 9 (.string ⟨l.toArray⟩) = some (.string l) := by
  rw [Go.WideMaps.keyOf_string_mk Tryd.underlying9 (by rw [Lib.size_eq]; exact h)]
def updS (S : List UInt8 → Bool) (k : List UInt8) : List UInt8 → Bool := fun x => if x = k then true else S x
/-- Block b is a set of texts, as a map to bools, of at most N entries. -/
def MapS (w : World) (b N : Nat) (S : List UInt8 → Bool) : Prop := ∃ D : DataW Value, w.ownsMap Tryd.prog 9 heldR b N D ∧ ∀ k, D.atKey (.string k) (.held (.bool false)) = .held (.bool (S k))
section
variable {w w' : World} {b N : Nat} {S : List UInt8 → Bool}
theorem MapS.made (w : World) : MapS (w.alloc (.map #[] 0)) w.heap.size 0 (fun _ => false) := ⟨_, World.ownsMap_made w _ _ _, fun _ => rfl⟩
theorem MapS.lt (h : MapS w b N S) : b < w.heap.size := by obtain ⟨D, h, _⟩ := h; exact h.lt
theorem MapS.of_block (h : MapS w b N S) (e : w'.heap[b]? = w.heap[b]?) : MapS w' b N S := by
  obtain ⟨D, ⟨es, clock, hb, F, hs, hD⟩, h2⟩ := h
  exact ⟨D, ⟨es, clock, e.trans hb, F, hs, hD⟩, h2⟩
theorem MapS.obj (h : MapS w b N S) : ∃ es clock, w.heap[b]? = some (.map es clock) := by
  obtain ⟨D, ⟨es, clock, hb, F, hs, hD⟩, h2⟩ := h
  exact ⟨es, clock, hb⟩
theorem MapS.look (h : MapS w b N S) {k : List UInt8} (hk : k.length ≤ maxLen) (W : World) (hW : W.heap[b]? = w.heap[b]?) : (Instr.lookup 84 (.map (some b)) (.string ⟨k.toArray⟩) false).run Tryd.prog W = .ok (.bool (S k)) W := by
  obtain ⟨D, h, h2⟩ := h.of_block hW
  obtain ⟨v, ps, hr, hv⟩ := h.lookup keyS Tryd.underlying84 (zeroBool W) (zd := .held (.bool false)) (zp := []) rfl (key_str hk)
  rw [h2 k] at hv
  simp only [heldR, Option.some.injEq, Prod.mk.injEq, DataW.held.injEq] at hv
  rw [hr, hv.1]
theorem MapS.store (h : MapS w b N S) (hn : N < maxLen) {k : List UInt8} (hk : k.length ≤ maxLen) :
    ∃ w', (Instr.mapUpdate 84 (.map (some b)) (.string ⟨k.toArray⟩) (.bool true)).run Tryd.prog w = .ok () w' ∧ MapS w' b (N + 1) (updS S k) ∧ w.grownBy w' (some b) := by
  obtain ⟨D, h, h2⟩ := h
  obtain ⟨w', hr, hm, hg⟩ := h.update keyS Tryd.underlying84 hn (key_str hk) (val := .bool true) (d := .held (.bool true)) (ps := []) rfl
  refine ⟨w', hr, ⟨_, hm, fun k' => ?_⟩, hg⟩
  unfold updS
  by_cases e : k' = k
  · subst e
    rw [if_pos rfl]
    exact Go.Maps.atKey_put_same h.isMap (by simp [WideAt.IsKeyLit]) _ _
  · rw [if_neg e, Go.Maps.atKey_put_other (by simpa using e)]
    exact h2 k'
end

/-- The clauses so far: their row's slices us are the caller's, as they lay in w0; the row is full, or the call's own. -/
def Row (w0 W : World) (v : Value) (G : List (List Int)) : Prop :=
  ∃ us : List Value, us.length = G.length ∧ (∀ j, j < G.length → Ints w0 (us.getD j (.slice none 0 0)) (G.getD j [])) ∧
    ((∃ p, v = .slice p G.length G.length ∧ (0 < G.length → ∃ b off, p = some ⟨b, off, none⟩ ∧ ∀ j, j < G.length → w0.cell? ⟨b, off + j, none⟩ = some (us.getD j (.slice none 0 0)))) ∨
      W.ownsRow w0.heap.size 23 1 v G.length us)
theorem Row.lists {w0 W : World} {v : Value} {G : List (List Int)} (h : Row w0 W v G) (hb : Below w0.heap.size w0 W) (hm : G.length ≤ 1000000) : Lists W v G := by
  obtain ⟨us, h1, h2, h3⟩ := h
  rcases h3 with ⟨p, rfl, hp⟩ | ho
  · refine ⟨p, _, rfl, Nat.le_refl _, by omega, fun h0 => ?_⟩
    obtain ⟨b, off, rfl, hc⟩ := hp h0
    exact ⟨b, off, rfl, fun j hj => ⟨_, (hb.cell (p := ⟨b, off + j, none⟩) (World.block_lt_of_cell? _ _ (hc j hj))).trans (hc j hj), (h2 j hj).below hb⟩⟩
  · rcases ho.2 with ⟨rfl, h0⟩ | ⟨g, cap, cur, rfl, hgb, hg, hn, hcap, hsz, htake⟩
    · exact ⟨none, 0, by rw [h0], by omega, by omega, fun h => by omega⟩
    · refine ⟨some ⟨g, 0, none⟩, cap, rfl, hn, by omega, fun _ => ⟨g, 0, rfl, fun j hj => ?_⟩⟩
      have := ho.cellAt j (by omega)
      refine ⟨us.getD j (.slice none 0 0), ?_, (h2 j hj).below hb⟩
      rw [Nat.zero_add, this]
      simp [List.getD, show j < us.length by omega]
theorem Row.keep {w0 W W' : World} {v : Value} {G : List (List Int)} (h : Row w0 W v G) (hk : ∀ k, v.ownBlock = some k → w0.heap.size ≤ k → W'.heap[k]? = W.heap[k]?) : Row w0 W' v G := by
  obtain ⟨us, h1, h2, h3⟩ := h
  refine ⟨us, h1, h2, h3.imp id fun ho => ?_⟩
  exact owns_of_block ho fun k hv => hk k hv (ho.lt k hv).1

/-- The premises in memory. -/
structure Prem (w0 W : World) (bp bq bm : Nat) (n : Int) (v : Value) (G : List (List Int)) (N : Nat) (S : List UInt8 → Bool) : Prop where
  bel : Below w0.heap.size w0 W
  hp : w0.heap.size ≤ bp
  hq : w0.heap.size ≤ bq
  hm : w0.heap.size ≤ bm
  box : Box W bp 86 #[.slice (some ⟨bq, 0, none⟩) 1 1, .map (some bm)]
  part : Box W bq 26 #[.int .i64 n, v]
  map : MapS W bm N S
  row : Row w0 W v G
section
variable {w0 W W' : World} {bp bq bm : Nat} {n : Int} {v : Value} {G : List (List Int)} {N : Nat} {S : List UInt8 → Bool}
theorem Prem.below (h : Prem w0 W bp bq bm n v G N S) (hb : Below W.heap.size W W') : Prem w0 W' bp bq bm n v G N S where
  bel := h.bel.trans (hb.mono h.bel.size)
  hp := h.hp
  hq := h.hq
  hm := h.hm
  box := h.box.below hb h.box.lt
  part := h.part.below hb h.part.lt
  map := h.map.of_block (hb.block _ h.map.lt)
  row := by
    obtain ⟨us, h1, h2, h3⟩ := h.row
    refine ⟨us, h1, h2, h3.imp id fun ho => ?_⟩
    exact owns_of_block ho fun k hk => hb.block k (ho.lt k hk).2
theorem Prem.lists (h : Prem w0 W bp bq bm n v G N S) (hm : G.length ≤ 1000000) : Lists W v G := h.row.lists h.bel hm
end
end K
end Go.Proofs.YtfhodbnhaaiceaaDoor
end
