/- Several texts, joined. -/
import Derived.Test.YtfhodbnhaaiceaaDoorQ20
import Derived.Test.YtfhodbnhaaiceaaDoorQ09
import Derived.Test.YtfhodbnhaaiceaaDoorQ10
import Derived.Recover

/- What the laws on valid formulas share. -/
section
namespace Go.Proofs.YtfhodbnhaaiceaaDoor
open Go.RowKit Go.Conc
namespace K
theorem Ints.take {w : World} {p : Option Addr} {n cap : Nat} {l : List Int} (h : Ints w (.slice p n cap) l) (k : Nat) (hk : k ≤ l.length) : Ints w (.slice p k cap) (l.take k) := by
  obtain ⟨p', c', e, h1, h2, h3⟩ := h
  cases e
  have hl : (l.take k).length = k := by simp; omega
  refine ⟨p, cap, by rw [hl], by omega, by omega, fun h0 => ?_⟩
  obtain ⟨b, off, e, hc⟩ := h3 (by omega)
  refine ⟨b, off, e, fun j hj => ?_⟩
  rw [hc j (by omega)]
  simp [List.getD, show j < k by omega]
theorem Lists.take {w : World} {p : Option Addr} {n cap : Nat} {l : List (List Int)} (h : Lists w (.slice p n cap) l) (k : Nat) (hk : k ≤ l.length) : Lists w (.slice p k cap) (l.take k) := by
  obtain ⟨p', c', e, h1, h2, h3⟩ := h
  cases e
  have hl : (l.take k).length = k := by simp; omega
  refine ⟨p, cap, by rw [hl], by omega, by omega, fun h0 => ?_⟩
  obtain ⟨b, off, e, hc⟩ := h3 (by omega)
  refine ⟨b, off, e, fun j hj => ?_⟩
  obtain ⟨u, hu, hi⟩ := hc j (by omega)
  refine ⟨u, hu, ?_⟩
  have e2 : (l.take k).getD j [] = l.getD j [] := by simp [List.getD, show j < k by omega]
  rw [e2]; exact hi
end K
namespace L
open K

theorem checkU_valid {n : Nat} {cs : List (List Int)} {A : List Int} (h : checkF n cs = 0) (hA : U.Val n A) : checkU n cs A = 0 := by
  unfold checkU
  rw [if_neg (by simp [h])]
  have : A.any (fun x => decide (x = 0) || decide ((n : Int) < av x)) = false := by
    rw [List.any_eq_false]
    intro x hx
    obtain ⟨h1, h2⟩ := hA x hx
    simp only [Bool.or_eq_true, decide_eq_true_eq, not_or]
    refine ⟨h1, ?_⟩
    unfold av
    split <;> omega
  rw [this]; rfl
theorem units_cases {n : Nat} {cs : List (List Int)} {A : List Int} (h : checkU n cs A = 0) :
    (U.Bad cs A ∧ unitsR n cs A = ([], true, 0)) ∨ (¬ U.Bad cs A ∧ unitsR n cs A = (U.lits n (U.Der cs A), false, 0)) := by
  by_cases hb : U.Bad cs A
  · exact .inl ⟨hb, unitsR_fails h (U.unitsOf_bad hb)⟩
  · exact .inr ⟨hb, unitsR_ok h (U.unitsOf_good hb)⟩
theorem val_fitC {V : Nat} (hV : 1 ≤ V ∧ V ≤ 12) (l : List Int) : U.Val V (fitC V l) := by
  intro x hx
  obtain ⟨h1, h2, _⟩ := fitC_mem (V := V) (by omega) (by omega) x hx
  refine ⟨h1, ?_⟩
  unfold av at h2
  split at h2 <;> omega
theorem val_fitL {V : Nat} (hV : 1 ≤ V ∧ V ≤ 12) (L : List (List Int)) : ∀ c ∈ fitL V L, U.Val V c := by
  intro c hc
  obtain ⟨l', _, rfl⟩ := fitL_mem hc
  exact val_fitC hV l'
theorem val_i64 {n : Nat} (hn : n ≤ 1048576) {l : List Int} (h : U.Val n l) : ∀ x ∈ l, I64 x := fun x hx => by have := (h x hx).2; unfold I64; omega
/-- What is found is what follows. -/
theorem mem_units {n : Nat} {cs : List (List Int)} {A : List Int} (hb : ¬ U.Bad cs A) (hc : ∀ c ∈ cs, U.Val n c) (hA : U.Val n A) (x : Int) : x ∈ U.lits n (U.Der cs A) ↔ U.Der cs A x := by
  have hv : ∀ {x : Int}, U.Der cs A x → x ≠ 0 ∧ -(n : Int) ≤ x ∧ x ≤ n := fun hd => hd.valid (n := n) (fun c h x hx => by have := hc c h x hx; omega) (fun x hx => by have := hA x hx; omega)
  exact U.mem_lits (fun h => (hv h).1 rfl) (fun x h => (hv h).2) (fun x h => h.con hb) x
theorem val_units {n : Nat} {cs : List (List Int)} {A : List Int} (hb : ¬ U.Bad cs A) (hc : ∀ c ∈ cs, U.Val n c) (hA : U.Val n A) : U.Val n (U.lits n (U.Der cs A)) := by
  intro x hx
  have := ((mem_units hb hc hA x).1 hx).valid (n := n) (fun c h x hx => by have := hc c h x hx; omega) (fun x hx => by have := hA x hx; omega)
  omega
/-- What was returned, assumed, gives the same. -/
theorem units_again {n : Nat} {cs : List (List Int)} {A : List Int} (hb : ¬ U.Bad cs A) (hc : ∀ c ∈ cs, U.Val n c) (hA : U.Val n A) : U.unitsOf n cs (U.lits n (U.Der cs A)) = some (U.lits n (U.Der cs A)) := by
  have hcl := U.Der.closed hb (fun c h x hx => (hc c h x hx).1)
  refine U.unitsOf_closed (T := U.Der cs A) ⟨fun x hx => (mem_units hb hc hA x).1 hx, hcl.con, hcl.cl⟩ (fun x hx => ?_)
  exact hx.mono (fun c h => h) (fun x h => (mem_units hb hc hA x).2 (.assume h))
end L
end Go.Proofs.YtfhodbnhaaiceaaDoor
end

/- Contracts of rup's require and begin. -/
section
namespace Go.Proofs.YtfhodbnhaaiceaaDoor
open Go.RowKit RA
namespace L
open K
attribute [local go_sem] Oper.semAt_some
set_option maxRecDepth 100000

/-- A panic with an error. -/
abbrev errP (e : Int) : List PanicEntry := [{ v := .iface 30 (.int .i64 e), recovered := false }]

theorem require_ok (w : World) : Calls Tryd.prog 50 #[.int .i64 0] w fun e w' => e = .returned (.tuple #[]) ∧ w' = w := by
  go_enter Tryd.func50, Tryd.ntmps50
  go_wp2
  go_end0
  exact ⟨rfl, rfl⟩
theorem require_bad (x : Int) (hx : x ≠ 0) (w : World) : Calls Tryd.prog 50 #[.int .i64 x] w fun e w' => e = .panicked (errP x) ∧ w' = w := by
  have hb : (x != 0) = true := by simp [hx]
  go_enter Tryd.func50, Tryd.ntmps50
  go_wp2
  exact ⟨rfl, ⟨rfl, rfl⟩⟩

theorem chunk_any (p : Option Addr) (N cap : Nat) (w : World) : Calls Tryd.prog 51 #[.slice p N cap, .int .i64 1048576] w fun e w' =>
    e = .returned (.func (.func 62) #[] #[.pointer (some ⟨w.heap.size, 0, none⟩), .pointer (some ⟨w.heap.size + 1, 0, none⟩)]) ∧ w' = (w.alloc (.cells #[.slice p N cap] 24)).alloc (.cells #[.int .i64 1048576] 3) := by
  have hmf : ∀ (fn : Fn) (first cap : Array Value) (w : World), (Instr.makeFunc fn first cap).run Tryd.prog w = .ok (.func fn first cap) w := fun _ _ _ _ => rfl
  go_enter Tryd.func51, Tryd.ntmps51
  go_wp2
  go_ret
  exact ⟨rfl, rfl⟩
theorem clip_any (p : Option Addr) (n cap : Nat) (hn : n ≤ cap) (w : World) : Calls Tryd.prog 52 #[.slice p n cap] w fun e w' => e = .returned (.slice p n n) ∧ w' = w := by
  go_enter Tryd.func52, Tryd.ntmps52
  go_wp2
  go_ret
  exact ⟨rfl, rfl⟩

theorem firstE_one (n : Int) (c : List Int) : firstE n [c] = checkE n c := by
  unfold firstE
  split
  · rename_i h; rw [h]; rfl
  · rfl
theorem checkF_part {n : Int} {F p : List (List Int)} (h : checkF n F = 0) (hp : p.length ≤ 1048576) : checkF n p = firstE n p := by
  have := checkF_range h
  unfold checkF
  rw [if_neg this, if_neg (by omega)]

theorem row_of_lists {w W : World} {a : Option Addr} {cap : Nat} {F : List (List Int)} (h : Lists w (.slice a F.length cap) F) : Row w W (.slice a F.length F.length) F := by
  obtain ⟨p, c, he, hl, hm, hc⟩ := h
  injection he with he1 he2 he3
  subst he1 he3
  by_cases h0 : 0 < F.length
  · obtain ⟨b, off, rfl, hcell⟩ := hc h0
    refine ⟨(List.range F.length).map fun j => (w.cell? ⟨b, off + j, none⟩).getD (.slice none 0 0), by simp, fun j hj => ?_, .inl ⟨_, rfl, fun _ => ⟨b, off, rfl, fun j hj => ?_⟩⟩⟩
    · obtain ⟨u, hu, hi⟩ := hcell j hj
      have : ((List.range F.length).map fun j => (w.cell? ⟨b, off + j, none⟩).getD (.slice none 0 0)).getD j (.slice none 0 0) = u := by
        simp [List.getD, hj, hu]
      rw [this]
      exact hi
    · obtain ⟨u, hu, hi⟩ := hcell j hj
      have : ((List.range F.length).map fun j => (w.cell? ⟨b, off + j, none⟩).getD (.slice none 0 0)).getD j (.slice none 0 0) = u := by
        simp [List.getD, hj, hu]
      rw [this]
      exact hu
  · have hF : F = [] := List.eq_nil_of_length_eq_zero (by omega)
    subst hF
    exact ⟨[], rfl, fun j hj => absurd hj (by simp), .inl ⟨_, rfl, fun h => absurd h (by simp)⟩⟩
def BeginR (n : Int) (F p : List (List Int)) (w : World) (e : Ending) (w' : World) : Prop :=
  Below w.heap.size w w' ∧ ((checkF n F ≠ 0 ∧ e = .panicked (errP (checkF n F))) ∨ (checkF n F = 0 ∧ firstE n p ≠ 0 ∧ e = .panicked (errP (firstE n p))) ∨
    (checkF n F = 0 ∧ firstE n p = 0 ∧ ∃ bp bq bm v', e = .returned (.pointer (some ⟨bp, 0, none⟩)) ∧ Prem w w' bp bq bm n v' F 0 (fun _ => false)))

set_option maxHeartbeats 8000000 in
theorem begin_any (n : Int) (v : Value) (F : List (List Int)) (pv : Value) (p : List (List Int)) (w : World) (hn : I64 n) (hF : ∀ c ∈ F, ∀ x ∈ c, I64 x) (hL : Lists w v F) (hp : ∀ c ∈ p, ∀ x ∈ c, I64 x) (hP : Lists w pv p) (_hmF : F.length ≤ 1000000) (hm : p.length ≤ 1000000) :
    Calls Tryd.prog 30 #[.agg #[.int .i64 n, v], pv] w (BeginR n F p w) := by
  have hc1 := fun W (hb : Below w.heap.size w W) => fcheck_any n v F W hn hF (hL.below hb)
  have HC1 := Lib.hid hc1
  have HL := Lib.hid hL
  have HPL := Lib.hid hP
  have HPI := Lib.hid hp
  obtain ⟨a, cap, rfl, hcap, _, _⟩ := id hL
  obtain ⟨ap, capp, rfl, hcapp, _, hpc⟩ := id hP
  have HPC := Lib.hid hpc
  clear hc1 hL hP hp hpc
  refine calls_of_wpAt Tryd.func30 rfl ?_
  simp only [Tryd.ntmps30, List.size_toArray, List.length_cons, List.length_nil, Nat.reduceAdd, Nat.reduceSub, Array.replicate_succ, Array.replicate_zero, List.push_toArray, List.append_toArray, List.nil_append, List.cons_append]
  refine wpAt_seq (wpAt_of_wp ?_)
  go_wp2
  refine wpAt_seq (wpAt_of_wp ?_)
  obtain ⟨E1, hE1⟩ : ∃ E, checkF n F = E := ⟨_, rfl⟩
  obtain ⟨E2, hE2⟩ : ∃ E, firstE n p = E := ⟨_, rfl⟩
  unfold BeginR
  rw [hE1, hE2]
  have HC2 : Hid (∀ W, Below w.heap.size w W → checkF n F = 0 → Calls Tryd.prog 41 #[.agg #[.int .i64 n, .slice ap p.length p.length]] W fun e w' => e = .returned (.int .i64 E2) ∧ Below W.heap.size W w') := by
    refine Lib.hid fun W hb h0 => ?_
    have h1 := fcheck_any n (.slice ap p.length p.length) p W hn HPI.out ?_
    · rw [checkF_part h0 (by omega), hE2] at h1; exact h1
    · obtain ⟨pp, cc, he, h2, h3, h4⟩ := HPL.out.below hb
      injection he with he1 he2 he3
      subst he1
      exact ⟨ap, p.length, rfl, Nat.le_refl _, h3, h4⟩
  have HE1 := Lib.hid hE1
  have HE2 := Lib.hid hE2
  have hcall := HC1.out (w.alloc (.cells #[.int .i64 n, .slice a F.length cap] 26)) ((Below.refl _ _).alloc (Nat.le_refl _) _)
  rw [hE1] at hcall
  clear hE1 hE2
  go_wp2_with fail
  refine hcall.mono ?_
  rintro e w1 ⟨rfl, hb1⟩
  clear hcall
  have hB1 : Below w.heap.size w w1 := ((Below.refl _ w).alloc (Nat.le_refl _) _).trans (hb1.mono (by simp))
  have hX1 : Box w1 w.heap.size 26 #[.int .i64 n, .slice a F.length cap] := (Box.new _ _ _).below hb1 (by simp)
  have HB1 := Lib.hid hB1
  have HX1 := Lib.hid hX1
  clear hb1 hB1 hX1
  by_cases h1 : E1 = 0
  · subst h1
    have hr := require_ok w1
    go_wp2_with fail
    refine hr.mono ?_
    rintro e w1 ⟨rfl, rfl⟩
    clear hr
    go_wp2
    refine wpAt_seq (wpAt_seq (wpAt_of_wp ?_))
    have hch := chunk_any ap p.length capp w1
    go_wp2_with fail
    refine hch.mono ?_
    rintro e w' ⟨rfl, rfl⟩
    clear hch
    go_wp2
    obtain ⟨w2, hw2⟩ : ∃ W, (w1.alloc (.cells #[.slice ap p.length capp] 24)).alloc (.cells #[.int .i64 1048576] 3) = W := ⟨_, rfl⟩
    have hk2 : Keep (fun _ => True) w1 w2 := by rw [← hw2]; exact ((Keep.refl _ _).alloc _).alloc _
    have hs2 : w2.heap.size = w1.heap.size + 2 := by rw [← hw2]; simp
    have hx1 : Box w2 w1.heap.size 24 #[.slice ap p.length capp] := by rw [← hw2]; exact (Box.new _ _ _).alloc _
    have hx2 : Box w2 (w1.heap.size + 1) 3 #[.int .i64 1048576] := by rw [← hw2]; exact Box.at _ _ _ (by simp)
    rw [hw2]
    clear hw2
    refine wpAt_block ?_
    refine wpAt_once Tryd.func30 (gf := 62) (lb := #[.pointer (some ⟨w1.heap.size, 0, none⟩), .pointer (some ⟨w1.heap.size + 1, 0, none⟩)]) rfl (enters_of Tryd.func62 (by kernel_rfl) rfl)
      (one := decide (0 < p.length)) (args := #[.slice ap p.length p.length])
      (fun W hk hs => chunk_once ap p.length capp w1.heap.size (w1.heap.size + 1) W (fun h => by obtain ⟨b, off, he, _⟩ := HPC.out h; exact ⟨b, off, he⟩) hm hcapp (box_keep hx1 hk trivial) (box_keep hx2 hk trivial) (by omega) (by omega)) rfl
      (fun W => E2 = 0 ∧ Keep (fun i => i < w2.heap.size) w2 W) (fun ch W => E2 ≠ 0 ∧ ch = errP E2 ∧ Keep (fun i => i < w2.heap.size) w2 W) ?hI ?h0
      { tmps := #[.agg #[.int .i64 n, .slice a F.length cap], .slice ap p.length capp, .pointer (some ⟨w.heap.size, 0, none⟩), undef, .pointer none, .slice ap p.length p.length, .agg #[.int .i64 n, .slice a F.length cap], .int .i64 0, .tuple #[], .slice ap p.length capp, .func (.func 62) #[] #[.pointer (some ⟨w1.heap.size, 0, none⟩), .pointer (some ⟨w1.heap.size + 1, 0, none⟩)], .slice ap p.length p.length, undef, undef, undef, undef, undef, undef, undef, undef, undef, undef, undef, undef, undef, undef, undef], defers := [] } ?assign ?body ?done ?panic
    case hI =>
      rintro A B ⟨e, h⟩ hk
      exact ⟨e, h.trans (hk.mono fun i _ hi => by omega)⟩
    case h0 =>
      intro h
      have h0 : p = [] := List.eq_nil_of_length_eq_zero (by simpa using h)
      exact ⟨by rw [← HE2.out, h0]; rfl, Keep.refl _ _⟩
    case assign =>
      intro l W K hK
      gi_wp2
      exact hK
    case body =>
      intro W ho hk hs
      have hkk : Keep (fun i => i < w1.heap.size) w1 W := (hk2.mono fun _ _ _ => trivial).trans (hk.mono fun i _ h => by omega)
      have hbW : Below w.heap.size w W := HB1.out.trans (hkk.to_below HB1.out.size fun k hk => by have := HB1.out.size; omega)
      have hXW : Box W w.heap.size 26 #[.int .i64 n, .slice a F.length cap] := box_keep HX1.out hkk HX1.out.lt
      have cx := hXW.cell 0
      simp only [List.getElem?_toArray, List.getElem?_cons_zero] at cx
      have hcall := HC2.out W hbW HE1.out
      have HKW := Lib.hid hk
      clear hXW hk hk2 hbW hkk hx1 hx2
      gi_wp2
      refine ⟨trivial, rfl, (CallsIn.inRound _ ((callsIn_wide (n := 0)).2 hcall)).mono ?_⟩
      rintro e w3 ⟨rfl, hb3⟩
      have hk3 : Keep (fun i => i < W.heap.size) W w3 := Keep.of_below hb3 fun k _ h => h
      have hk4 : Keep (fun i => i < w2.heap.size) w2 w3 := HKW.out.trans (hk3.mono fun i _ h => by omega)
      have HK3 := Lib.hid hk3
      have HK4 := Lib.hid hk4
      clear hcall hb3 hk3 hk4
      by_cases h2 : E2 = 0
      · subst h2
        have hr := require_ok w3
        gi_wp2
        refine ⟨trivial, rfl, (CallsIn.inRound _ ((callsIn_wide (n := 0)).2 hr)).mono ?_⟩
        rintro e w3 ⟨rfl, rfl⟩
        clear hr
        gi_wp2
        exact ⟨HK3.out, by rw [← hs2]; exact HK4.out⟩
      · have hr := require_bad E2 h2 w3
        have HH2 := Lib.hid h2
        clear h2
        gi_wp2
        refine ⟨trivial, rfl, (CallsIn.inRound _ ((callsIn_wide (n := 0)).2 hr)).mono ?_⟩
        rintro e w3 ⟨rfl, rfl⟩
        clear hr
        gi_wp2
        exact ⟨HK3.out, HH2.out, by rw [← hs2]; exact HK4.out⟩
    case done =>
      rintro W ⟨he2, hk⟩ hD
      subst he2
      have hkk : Keep (fun i => i < w1.heap.size) w1 W := (hk2.mono fun _ _ _ => trivial).trans (hk.mono fun i _ h => by omega)
      have hbW : Below w.heap.size w W := HB1.out.trans (hkk.to_below HB1.out.size fun k hk => by have := HB1.out.size; omega)
      have hXW : Box W w.heap.size 26 #[.int .i64 n, .slice a F.length cap] := box_keep HX1.out hkk HX1.out.lt
      have cx0 := hXW.cell 0
      have cx1 := hXW.cell 1
      have fx1 := hXW.frozen 1
      simp only [List.getElem?_toArray, List.getElem?_cons_zero, List.getElem?_cons_succ] at cx0 cx1
      have hD2 : w2.heap.size < W.heap.size := (Array.getElem?_eq_some_iff.1 hD).1
      have hs1 := HX1.out.lt
      have HXW := Lib.hid hXW
      have HBW := Lib.hid hbW
      have HD := Lib.hid hD
      clear hXW hk hk2 hbW hkk hx1 hx2 hD
      show WpAt _ _ _ _ _ _
      refine wpAt_seq (wpAt_of_wp ?_)
      have hcl := clip_any a F.length cap hcap W
      go_wp2_with fail
      refine hcl.mono ?_
      rintro e W ⟨rfl, rfl⟩
      clear hcl
      go_wp2
      refine wpAt_of_wp ?_
      obtain ⟨W3, hW3⟩ : ∃ X, W.setCell ⟨w.heap.size, 1, none⟩ (.slice a F.length F.length) = X := ⟨_, rfl⟩
      have hx3 : Box W3 w.heap.size 26 #[.int .i64 n, .slice a F.length F.length] := by
        have := HXW.out.set 1 (.slice a F.length F.length)
        rw [hW3] at this
        simpa using this
      have hb3 : Below w.heap.size w W3 := by rw [← hW3]; exact HBW.out.setCell (Nat.le_refl _) _
      have hd3 : W3.heap[w2.heap.size]? = some (.deferred (some [])) := by
        rw [← hW3]
        exact (Deep.blk_setCell_other _ _ _ _ (by show w2.heap.size ≠ w.heap.size; omega)).trans HD.out
      have hs3 : W3.heap.size = W.heap.size := by rw [← hW3]; simp [World.setCell]
      rw [hW3]
      have cy0 := hx3.cell 0
      have cy1 := hx3.cell 1
      simp only [List.getElem?_toArray, List.getElem?_cons_zero, List.getElem?_cons_succ] at cy0 cy1
      have HX3 := Lib.hid hx3
      have HB3 := Lib.hid hb3
      have HD3 := Lib.hid hd3
      have HS3 := Lib.hid hs3
      have hmm := @run_makeMap Tryd.prog
      clear hx3 hb3 hd3 hs3 hW3
      go_wp2
      obtain ⟨Wf, hWf⟩ : ∃ X, (((W3.alloc (.cells #[.int .i64 n, .slice a F.length F.length] 26)).alloc (.map #[] 0)).alloc (.cells #[.slice (some ⟨W3.heap.size, 0, none⟩) 1 1, .map (some (W3.heap.size + 1))] 86)) = X := ⟨_, rfl⟩
      rw [hWf]
      have hD3 : Wf.heap[w1.heap.size + 2]? = some (.deferred (some [])) := by
        have h3 := HD3.out
        have hlt := (Array.getElem?_eq_some_iff.1 h3).1
        rw [← hWf, ← hs2]
        exact ((Deep.blk_alloc_lt _ _ _ (by simp; omega)).trans ((Deep.blk_alloc_lt _ _ _ (by simp; omega)).trans (Deep.blk_alloc_lt _ _ _ hlt))).trans h3
      have hsz := HB3.out.size
      have hbf : Below w.heap.size w Wf := by rw [← hWf]; exact ((HB3.out.alloc hsz _).alloc (by simp; omega) _).alloc (by simp; omega) _
      have hq : Box Wf W3.heap.size 26 #[.int .i64 n, .slice a F.length F.length] := by rw [← hWf]; exact ((Box.new _ _ _).alloc _).alloc _
      have hmp : MapS Wf (W3.heap.size + 1) 0 (fun _ => false) := by
        rw [← hWf]
        have h := MapS.made (W3.alloc (.cells #[.int .i64 n, .slice a F.length F.length] 26))
        simp only [World.size_alloc] at h
        exact h.of_block (Deep.blk_alloc_lt _ _ _ (by simp))
      have hp : Box Wf (W3.heap.size + 1 + 1) 86 #[.slice (some ⟨W3.heap.size, 0, none⟩) 1 1, .map (some (W3.heap.size + 1))] := by rw [← hWf]; exact Box.at _ _ _ (by simp)
      have hlt3 : w1.heap.size + 2 < W3.heap.size := by have := (Array.getElem?_eq_some_iff.1 HD3.out).1; omega
      have ho : ∀ k, k ≠ w1.heap.size + 2 → (Wf.putObj (w1.heap.size + 2) (.deferred none)).heap[k]? = Wf.heap[k]? := fun k hk => World.putObj_heap_other hk
      refine ⟨by simp, .inl ⟨_, _, rfl, run_takeDeferred hD3, ?_⟩⟩
      refine ⟨_, results_tmp rfl _ _ _, ?_⟩
      refine ⟨?_, W3.heap.size + 1 + 1, rfl, W3.heap.size, W3.heap.size + 1, .slice a F.length F.length, ?_⟩
      · exact hbf.trans (Keep.to_below (p := fun i => i ≠ w1.heap.size + 2) ((Keep.refl _ _).putObj (fun h => h rfl) _) hbf.size fun k hk => by omega)
      · exact { bel := hbf.trans (Keep.to_below (p := fun i => i ≠ w1.heap.size + 2) ((Keep.refl _ _).putObj (fun h => h rfl) _) hbf.size fun k hk => by omega)
                hp := by omega
                hq := hsz
                hm := by omega
                box := hp.of_block (ho _ (by omega))
                part := hq.of_block (ho _ (by omega))
                map := hmp.of_block (ho _ (by omega))
                row := row_of_lists HL.out }
    case panic =>
      rintro ch W ⟨he2, rfl, hk⟩ hD
      have hkk : Keep (fun i => i < w1.heap.size) w1 W := (hk2.mono fun _ _ _ => trivial).trans (hk.mono fun i _ h => by omega)
      have hbW : Below w.heap.size w W := HB1.out.trans (hkk.to_below HB1.out.size fun k hk => by have := HB1.out.size; omega)
      have hlt : w.heap.size ≤ w2.heap.size := by have := HB1.out.size; omega
      show LeavesInM _ _ _ _ _ _ _ _ _
      refine ⟨by simp, .inl ⟨_, _, rfl, run_takeDeferred hD, ?_⟩⟩
      exact ⟨hbW.trans (Keep.to_below (p := fun i => i ≠ w2.heap.size) ((Keep.refl _ _).putObj (fun h => h rfl) _) hbW.size fun k hk => by omega), .inl ⟨he2, rfl⟩⟩
  · have hr := require_bad E1 h1 w1
    go_wp2_with fail
    refine hr.mono ?_
    rintro e w' ⟨rfl, rfl⟩
    clear hr
    go_wp2
    exact ⟨HB1.out, rfl⟩
end L
end Go.Proofs.YtfhodbnhaaiceaaDoor
end

/- Unit propagation and models, plain. -/
section
namespace Go.Proofs.YtfhodbnhaaiceaaDoor
open Go.RowKit Go.Conc
namespace L
open K

theorem litB_val {m : List Bool} {n : Nat} (hm : m.length = n) {x : Int} (h0 : x ≠ 0) (hx : x.natAbs ≤ n) : litB m x = (m.getD (x.natAbs - 1) false == decide (0 < x)) := by
  have e1 : av x = (x.natAbs : Int) := by unfold av; split <;> omega
  unfold litB
  rw [e1, show (((x.natAbs : Int) - 1).toNat) = x.natAbs - 1 by omega, decide_eq_true (show (0 : Int) < (x.natAbs : Int) by omega), decide_eq_true (show (x.natAbs : Int) ≤ (m.length : Int) by omega)]
  rfl
theorem litB_neg {m : List Bool} {n : Nat} (hm : m.length = n) {x : Int} (h0 : x ≠ 0) (hx : x.natAbs ≤ n) : litB m (-x) = !litB m x := by
  rw [litB_val hm h0 hx, litB_val hm (show -x ≠ 0 by omega) (by omega), Int.natAbs_neg]
  have : decide (0 < -x) = !decide (0 < x) := by
    by_cases h : 0 < x
    · rw [decide_eq_true h, decide_eq_false (by omega)]; rfl
    · rw [decide_eq_false h, decide_eq_true (by omega)]; rfl
  rw [this]
  cases m.getD (x.natAbs - 1) false <;> cases decide (0 < x) <;> rfl
section
variable {m : List Bool} {n : Nat} {F : List (List Int)} {A : List Int}
theorem der_sound (hm : m.length = n) (hF : ∀ c ∈ F, holdsB m c = true) (hv : ∀ c ∈ F, U.Val n c) (hA : ∀ a ∈ A, litB m a = true) {x : Int} (h : U.Der F A x) : litB m x = true := by
  induction h with
  | assume hx => exact hA _ hx
  | @unit c x hc hx _ ih =>
    have h1 := hF c hc
    unfold holdsB at h1
    rw [List.any_eq_true] at h1
    obtain ⟨t, ht, h2⟩ := h1
    by_cases e : t = x
    · exact e ▸ h2
    · have h3 := ih t ht e
      obtain ⟨g1, g2⟩ := hv c hc t ht
      rw [litB_neg hm g1 g2, h2] at h3
      cases h3
theorem bad_sound (hm : m.length = n) (hF : ∀ c ∈ F, holdsB m c = true) (hv : ∀ c ∈ F, U.Val n c) (hA : ∀ a ∈ A, litB m a = true) (hvA : U.Val n A) : ¬ U.Bad F A := by
  rintro (⟨x, h1, h2⟩ | ⟨c, hc, hy⟩)
  · have h3 := hA _ h2
    obtain ⟨g1, g2⟩ := hvA x h1
    rw [litB_neg hm g1 g2, hA x h1] at h3
    cases h3
  · have h1 := hF c hc
    unfold holdsB at h1
    rw [List.any_eq_true] at h1
    obtain ⟨t, ht, h2⟩ := h1
    have h3 := der_sound hm hF hv hA (hy t ht)
    obtain ⟨g1, g2⟩ := hv c hc t ht
    rw [litB_neg hm g1 g2, h2] at h3
    cases h3
end
theorem pickL_in {T : Int → Prop} {v : Nat} (h : U.pickL T v ≠ 0) : T (U.pickL T v) := by
  unfold U.pickL at h ⊢
  by_cases h1 : T (v : Int)
  · simp [h1]
  · by_cases h2 : T (-(v : Int))
    · simp [h1, h2]
    · simp [h1, h2] at h
/-- All variables are known. -/
theorem lits_full {n : Nat} {T : Int → Prop} (h : (U.lits n T).length = n) : ∀ i, i < n → ((U.lits n T).getD i 0).natAbs = i + 1 ∧ T ((U.lits n T).getD i 0) := by
  have e0 : U.pickL T 0 = 0 := by unfold U.pickL; simp
  have e1 : U.lits n T = ((List.range n).map fun i => U.pickL T (i + 1)).filter (· ≠ 0) := by
    unfold U.lits
    rw [List.range_succ_eq_map, List.map_cons, List.filter_cons, e0, List.map_map]
    rfl
  have e2 : ∀ x ∈ (List.range n).map fun i => U.pickL T (i + 1), x ≠ 0 := by
    rw [e1] at h
    intro x hx
    have h2 := (List.length_filter_eq_length_iff (p := fun x : Int => decide (x ≠ 0)) (l := (List.range n).map fun i => U.pickL T (i + 1))).1 (by rw [h]; simp) x hx
    simpa using h2
  have e3 : U.lits n T = (List.range n).map fun i => U.pickL T (i + 1) := by
    rw [e1, List.filter_eq_self.2]
    intro x hx
    simpa using e2 x hx
  intro i hi
  have e4 : (U.lits n T).getD i 0 = U.pickL T (i + 1) := by rw [e3]; simp [List.getD, hi]
  have e5 : U.pickL T (i + 1) ≠ 0 := e2 _ (by simp only [List.mem_map, List.mem_range]; exact ⟨i, hi, rfl⟩)
  rw [e4]
  exact ⟨U.natAbs_pickL T (i + 1) e5, pickL_in e5⟩
def modelU (u : List Int) : List Bool := u.map fun x => decide (0 < x)
theorem full_holds {n : Nat} {F : List (List Int)} {A : List Int} {T : Int → Prop} (hcl : U.Closed F A T) (hv : ∀ c ∈ F, U.Val n c) (h : (U.lits n T).length = n) : ∀ c ∈ F, holdsB (modelU (U.lits n T)) c = true := by
  intro c hc
  have hlen : (modelU (U.lits n T)).length = n := by simp [modelU, h]
  have key : ∀ t ∈ c, T t → litB (modelU (U.lits n T)) t = true := by
    intro t ht hT
    obtain ⟨g1, g2⟩ := hv c hc t ht
    obtain ⟨k1, k2⟩ := lits_full h (t.natAbs - 1) (by omega)
    rw [litB_val hlen g1 g2]
    have e : (modelU (U.lits n T)).getD (t.natAbs - 1) false = decide (0 < (U.lits n T).getD (t.natAbs - 1) 0) := by
      have : t.natAbs - 1 < (U.lits n T).length := by omega
      simp [modelU, List.getD, this]
    rw [e]
    have e2 : (U.lits n T).getD (t.natAbs - 1) 0 = t := by
      generalize (U.lits n T).getD (t.natAbs - 1) 0 = y at *
      have : y = t ∨ y = -t := by omega
      rcases this with h1 | h1
      · exact h1
      · rw [h1] at k2
        exact absurd k2 (hcl.con t hT)
    rw [e2]; simp
  unfold holdsB
  rw [List.any_eq_true]
  rcases hcl.cl c hc with ⟨t, ht, hT⟩ | ⟨a, b, ha, _, _, hna, _⟩
  · exact ⟨t, ht, key t ht hT⟩
  · refine ⟨a, ha, key a ha ?_⟩
    obtain ⟨g1, g2⟩ := hv c hc a ha
    obtain ⟨k1, k2⟩ := lits_full h (a.natAbs - 1) (by omega)
    generalize (U.lits n T).getD (a.natAbs - 1) 0 = y at *
    have : y = a ∨ y = -a := by omega
    rcases this with h1 | h1
    · exact h1 ▸ k2
    · exact absurd (h1 ▸ k2) hna
end L
end Go.Proofs.YtfhodbnhaaiceaaDoor
end
