/- Several texts, joined. -/
import Derived.Test.YtfhodbnhaaiceaaDoorQ07
import Derived.Test.YtfhodbnhaaiceaaDoorQ02
import Derived.Maps.OwnSet
import Derived.Maps.AppendAt
import Derived.Conc.LoneCalls
import Derived.Conc.LoneSelectN

/- Leaving a literal that became false keeps what is true; what is found is all that follows. -/
section
namespace Go.Proofs.YtfhodbnhaaiceaaDoor
namespace U
section
variable {n : Nat} {cs : List (List Int)} {A : List Int} {m : Nat} {x : Int} {rest : List Nat} {s : St}

theorem leave_inv {i : Nat} (h : Inv n cs A m x (i :: rest) s) (hx : x ≠ 0) (hF : s.kn x.natAbs = -x) (hnq : -x ∉ s.q) (hir : i ∉ rest) (hi : i ∈ s.W x) (hv : Val n (cs.getD i [])) :
    ((leave s i (cs.getD i []) x).1 = true → Inv n cs A m x rest (leave s i (cs.getD i []) x).2 ∧ Mono s (leave s i (cs.getD i []) x).2 ∧ mea n (leave s i (cs.getD i []) x).2 ≤ mea n s ∧ -x ∉ (leave s i (cs.getD i []) x).2.q ∧ (leave s i (cs.getD i []) x).2.W x = s.W x) ∧
    ((leave s i (cs.getD i []) x).1 = false → Bad cs A) := by
  obtain ⟨him, hS, hocc⟩ := h.occ x i hi
  have hmem : cs.getD i [] ∈ cs := by
    have : i < cs.length := by have := h.mle; omega
    rw [List.getD, List.getElem?_eq_getElem this]; exact List.getElem_mem this
  have hlive := h.live i him
  have hstep := fun s' => Inv.step h s' him
  obtain ⟨c, ec⟩ : ∃ c, cs.getD i [] = c := ⟨_, rfl⟩
  rw [ec] at hmem hv hS hlive hstep ⊢
  have hz : ∀ x ∈ c, x ≠ 0 := fun x hx => (hv x hx).1
  have hxb : x = s.b0 i ∨ x = s.b1 i := by
    rcases hocc with h1 | h1 | ⟨_, h1⟩
    · exact .inl h1
    · exact .inr h1
    · exact absurd (.inr ⟨rfl, by simp⟩) h1
  clear hocc
  obtain ⟨p0, p1, pne, ple, ppre⟩ := hS
  obtain ⟨t1, t2, t3, t4, t5, tk, tq, tx, tW⟩ := turned_spec hxb pne
  obtain ⟨o, eo⟩ : ∃ o, (turned s i x).b0 i = o := ⟨_, rfl⟩
  rw [eo] at t2 t3 t4
  have hoc : o ∈ c := by rcases t3 with e | e <;> rw [e] <;> assumption
  have ho0 : o ≠ 0 := hz o hoc
  have hbb : ∀ z, i ∈ s.W z → z = o ∨ z = x ∨ (s.kn z.natAbs = -z ∧ ¬ Pend s x (i :: rest) z i) := by
    intro z hzW
    rcases (h.occ z i hzW).2.2 with e | e | e
    · exact ((t4 z).1 (.inl e)).imp id .inl
    · exact ((t4 z).1 (.inr e)).imp id .inl
    · exact .inr (.inr e)
  have hpre : ∀ j, j < s.nx i → c.getD j 0 = o ∨ c.getD j 0 = x ∨ s.kn (c.getD j 0).natAbs = -(c.getD j 0) := by
    intro j hj
    rcases ppre j hj with e | e | e
    · exact ((t4 _).1 (.inl e)).imp id .inl
    · exact ((t4 _).1 (.inr e)).imp id .inl
    · exact .inr (.inr e)
  -- what was known of both watched literals
  have hlive' : Sat s c ∨ (i ∈ s.W o ∧ i ∈ s.W x ∧ Ok s x (i :: rest) c o i) := by
    rcases hlive with h1 | ⟨w0, w1, _, k0, k1⟩
    · exact .inl h1
    · right
      have all : ∀ z, z = s.b0 i ∨ z = s.b1 i → i ∈ s.W z ∧ Ok s x (i :: rest) c z i := by
        rintro z (rfl | rfl)
        · exact ⟨w0, k0⟩
        · exact ⟨w1, k1⟩
      exact ⟨(all o ((t4 o).2 (.inl rfl))).1, hi, (all o ((t4 o).2 (.inl rfl))).2⟩
  have hxF : ∀ r, ¬ Pend s x r x i ↔ i ∉ r := fun r => by simp [Pend, hnq]
  by_cases hT : s.kn o.natAbs = o
  · have e : leave s i c x = (true, turned s i x) := by simp only [leave]; rw [if_pos (by rw [eo, tk]; exact hT)]
    rw [e]
    refine ⟨fun _ => ⟨hstep _ tk tq (fun j _ => by rw [tx]) (fun j hj => (t5 j hj).1) (fun j hj => (t5 j hj).2) (fun z j _ => by rw [tW]) (by rw [tW]; exact h.wnd) ?_ (.inl ⟨o, hoc, ho0, by rw [tk]; exact hT⟩) ?_, fun y _ e => by rw [tk]; exact e, Nat.le_of_eq (by simp only [mea, tk, tq]), by show -x ∉ (turned s i x).q; rw [tq]; exact hnq, tW ▸ rfl⟩, fun h1 => absurd h1 (by simp)⟩
    · simp only [Str, eo, t1, tx, tk]
      refine ⟨hoc, ?_, t2, ple, hpre⟩
      rcases hxb with e | e <;> rw [e] <;> assumption
    · intro z hzW
      rw [tW] at hzW
      rw [eo, t1, tk]
      rcases hbb z hzW with e | e | ⟨e1, e2⟩
      · exact .inl e
      · exact .inr (.inl e)
      · exact .inr (.inr ⟨e1, fun hp => e2 (hp.imp (fun hq => by rw [tq] at hq; exact hq) fun ⟨a, b⟩ => ⟨a, List.mem_cons_of_mem _ b⟩)⟩)
  · have S1 := seek_spec (turned s i x) i c o hz (by rw [tx]; exact ple)
    rw [tk, tx] at S1
    obtain ⟨y, ey⟩ : ∃ y, seekR (turned s i x) i c o = y := ⟨_, rfl⟩
    rw [ey] at S1
    have hxc : x ∈ c := by rcases hxb with e | e <;> rw [e] <;> assumption
    rcases S1 with ⟨y0, hfull, hall⟩ | ⟨hy, hy0, hyo, hny, hle, hlt, hpre2⟩
    · have e : leave s i c x = learn (seekS (turned s i x) i c o) o := by
        simp only [leave]
        rw [if_neg (by rw [eo, tk]; exact hT), eo, ey, if_pos y0]
      have e2 : learn (seekS (turned s i x) i c o) o = ((learn s o).1, { (learn s o).2 with nx := (seekS (turned s i x) i c o).nx, b0 := (turned s i x).b0, b1 := (turned s i x).b1 }) := by
        have e3 : seekS (turned s i x) i c o = { s with nx := (seekS (turned s i x) i c o).nx, b0 := (turned s i x).b0, b1 := (turned s i x).b1 } := by
          simp only [seekS, tk, tq, tW]
        rw [e3, learn_turned]
      have hFa : ∀ z ∈ c, z ≠ o → s.kn z.natAbs = -z := by
        intro z hzc hzo
        obtain ⟨j, hj, rfl⟩ := mem_at hzc
        by_cases hjl : j < s.nx i
        · rcases hpre j hjl with h1 | h1 | h1
          · exact absurd h1 hzo
          · rw [h1]; exact hF
          · exact h1
        · rcases hall j (by omega) hj with h1 | h1
          · exact absurd h1 hzo
          · exact h1
      by_cases hFo : s.kn o.natAbs = -o
      · rw [e, e2, learn_no hFo]
        refine ⟨fun h1 => absurd h1 (by simp), fun _ => .inr ⟨c, hmem, fun z hzc => ?_⟩⟩
        by_cases hzo : z = o
        · exact h.false_der (hz z hzc) (hzo ▸ hFo)
        · exact h.false_der (hz z hzc) (hFa z hzc hzo)
      · have hda : Der cs A o := .unit hmem hoc fun z hzc hne => h.false_der (hz z hzc) (hFa z hzc hne)
        have ht : (learn s o).1 = true := by rw [learn_new hFo hT]
        obtain ⟨i1, i2, i3, i4, i5, i6⟩ := learn_inv h ho0 (hv o hoc).2 hda ht
        have hs := learn_same s o
        have hFm : ∀ z, z ≠ 0 → s.kn z.natAbs = -z → (learn s o).2.kn z.natAbs = -z := fun z hz0 hzf => by
          have := i2 (-z) (by omega) (by simpa using hzf)
          simpa using this
        have hnx : (seekS (turned s i x) i c o).nx = upd s.nx i c.length := by
          funext j
          by_cases hj : j = i
          · rw [hj, hfull, upd_same]
          · simp only [seekS]; rw [upd_ne hj, upd_ne hj, tx]
        rw [e, e2, ht]
        refine ⟨fun _ => ⟨?_, i2, i4, i6 (-x) (fun e => ?_) hnq, by rw [i5]⟩, fun h1 => absurd h1 (by simp)⟩
        · refine Inv.step i1 _ him rfl rfl (fun j hj => ?_) (fun j hj => ?_) (fun j hj => ?_) (fun z j _ => Iff.rfl) i1.wnd ?_ (.inl ⟨o, by rw [ec]; exact hoc, ho0, i3⟩) ?_
          · show (seekS (turned s i x) i c o).nx j = _
            rw [hnx, upd_ne hj, hs.1]
          · show (turned s i x).b0 j = _
            rw [(t5 j hj).1, hs.2.1]
          · show (turned s i x).b1 j = _
            rw [(t5 j hj).2, hs.2.2]
          · simp only [Str, ec, eo, t1]
            refine ⟨hoc, hxc, t2, by rw [hnx, upd_same]; exact Nat.le_refl _, fun j hj => ?_⟩
            rw [hnx, upd_same] at hj
            by_cases hjo : c.getD j 0 = o
            · exact .inl hjo
            · exact .inr (.inr (hFm _ (hz _ (getD_mem hj)) (hFa _ (getD_mem hj) hjo)))
          · intro z hzW
            have hzW' : i ∈ (learn s o).2.W z := hzW
            show z = (turned s i x).b0 i ∨ z = (turned s i x).b1 i ∨ _
            rw [eo, t1]
            have := (i1.occ z i hzW').2.2
            rw [hs.2.1, hs.2.2] at this
            rcases this with e | e | ⟨e1, e2⟩
            · exact ((t4 z).1 (.inl e)).imp id .inl
            · exact ((t4 z).1 (.inr e)).imp id .inl
            · exact .inr (.inr ⟨e1, fun hp => e2 (hp.imp id fun ⟨a, b⟩ => ⟨a, List.mem_cons_of_mem _ b⟩)⟩)
        · rw [← e, Int.natAbs_neg, hF] at hT
          exact hT rfl
    · obtain ⟨s', es⟩ : ∃ s', push { (seekS (turned s i x) i c o) with b1 := upd (seekS (turned s i x) i c o).b1 i y } i y = s' := ⟨_, rfl⟩
      have e : leave s i c x = (true, s') := by
        simp only [leave]
        rw [if_neg (by rw [eo, tk]; exact hT), eo, ey, if_neg hy0, es]
      rw [e]
      have g0 : ∀ j, s'.b0 j = (turned s i x).b0 j := fun j => by rw [← es]; rfl
      have g1 : s'.b1 i = y := by rw [← es]; simp [push, upd_same]
      have gk : s'.kn = s.kn := by rw [← es]; exact tk
      have gq : s'.q = s.q := by rw [← es]; exact tq
      have gx : s'.nx = (seekS (turned s i x) i c o).nx := by rw [← es]; rfl
      have gW : ∀ z j, j ∈ s'.W z ↔ (j ∈ s.W z ∨ (z = y ∧ j = i)) := fun z j => by rw [← es, mem_push]; simp only [seekS, tW]
      have hyx : y ≠ x := fun e => hny (e ▸ hF)
      have hiy : i ∉ s.W y := by
        intro h1
        rcases hbb y h1 with e | e | ⟨e, _⟩
        · exact hyo e
        · exact hyx e
        · exact hny e
      refine ⟨fun _ => ⟨hstep s' gk gq (fun j hj => ?_) (fun j hj => ?_) (fun j hj => ?_) (fun z j hj => ?_) ?_ ?_ ?_ ?_, fun y _ e => by rw [gk]; exact e, Nat.le_of_eq (by simp only [mea, gk, gq]), by rw [gq]; exact hnq, ?_⟩, fun h1 => absurd h1 (by simp)⟩
      · rw [gx]; simp only [seekS]; rw [upd_ne hj, tx]
      · rw [g0]; exact (t5 j hj).1
      · rw [← es]; simp only [push]; rw [upd_ne hj]; exact (t5 j hj).2
      · rw [gW]; simp [hj]
      · rw [← es]
        refine push_nodup (fun z => ?_) ?_
        · show ((turned s i x).W z).Nodup
          rw [tW]; exact h.wnd z
        · show i ∉ (turned s i x).W y
          rw [tW]; exact hiy
      · simp only [Str, g0, g1, gx, gk, eo]
        refine ⟨hoc, hy, fun e => hyo e.symm, hle, fun j hj => ?_⟩
        by_cases hjl : j < s.nx i
        · rcases hpre j hjl with h1 | h1 | h1
          · exact .inl h1
          · exact .inr (.inr (by rw [h1]; exact hF))
          · exact .inr (.inr h1)
        · exact hpre2 j (by omega) hj
      · rcases hlive' with ⟨t, ht, h1, h2⟩ | ⟨w0, w1, k0⟩
        · exact .inl ⟨t, ht, h1, by rw [gk]; exact h2⟩
        · by_cases hsat : Sat s c
          · obtain ⟨t, ht, h1, h2⟩ := hsat
            exact .inl ⟨t, ht, h1, by rw [gk]; exact h2⟩
          right
          rw [g0, g1, eo]
          refine ⟨(gW _ _).2 (.inl w0), (gW _ _).2 (.inr ⟨rfl, rfl⟩), fun hf => ?_, fun hf => ?_⟩
          · rw [gk] at hf
            rcases k0 hf with (h1 | ⟨h1, _⟩) | h1
            · left; left; rw [gq]; exact h1
            · exact absurd h1 t2
            · exact absurd h1 hsat
          · rw [gk] at hf; exact absurd hf hny
      · intro z hzW
        rw [g0, g1, eo, gk]
        rcases (gW z i).1 hzW with h1 | ⟨h1, _⟩
        · rcases hbb z h1 with e | e | ⟨e1, e2⟩
          · exact .inl e
          · subst e
            refine .inr (.inr ⟨hF, ?_⟩)
            simp only [Pend, gq]
            rintro (h2 | ⟨_, h2⟩)
            · exact hnq h2
            · exact hir h2
          · refine .inr (.inr ⟨e1, fun hp => e2 ?_⟩)
            simp only [Pend, gq] at hp
            exact hp.imp id fun ⟨a, b⟩ => ⟨a, List.mem_cons_of_mem _ b⟩
        · exact .inr (.inl h1)
      · rw [← es]
        simp only [push]
        rw [upd_ne (fun e => hyx e.symm)]
        show (turned s i x).W x = _
        rw [tW]

/-- A list without repeats of numbers below a bound is no longer than it. -/
theorem nodup_le : ∀ (m : Nat) (l : List Nat), l.Nodup → (∀ i ∈ l, i < m) → l.length ≤ m
  | 0, l, _, h => by
    cases l with
    | nil => simp
    | cons a r => exact absurd (h a (by simp)) (Nat.not_lt_zero _)
  | m + 1, l, hn, h => by
    by_cases hm : m ∈ l
    · have h1 := nodup_le m (l.erase m) (hn.erase m) (fun i hi => by
        have h2 := (List.Nodup.mem_erase_iff hn).1 hi
        have := h i h2.2
        have := h2.1
        omega)
      rw [List.length_erase_of_mem hm] at h1
      omega
    · have := nodup_le m l hn (fun i hi => by
        have := h i hi
        have : i ≠ m := fun e => hm (e ▸ hi)
        omega)
      omega
theorem Inv.wlen (h : Inv n cs A m x rest s) (z : Int) : (s.W z).length ≤ m := nodup_le m _ (h.wnd z) fun i hi => (h.occ z i hi).1
end

/-- What is known, by variables. -/
theorem lits_known {n : Nat} {kn : Nat → Int} (h : ∀ v, kn v = 0 ∨ ((kn v).natAbs = v ∧ 1 ≤ v ∧ v ≤ n)) : ((List.range (n + 1)).map kn).filter (· ≠ 0) = lits n fun y => y ≠ 0 ∧ kn y.natAbs = y := by
  unfold lits
  congr 1
  apply List.map_congr_left
  intro v _
  unfold pickL
  rcases h v with h1 | ⟨h1, h2, h3⟩
  · have a : ¬ ((v : Int) ≠ 0 ∧ kn (v : Int).natAbs = v) := by rintro ⟨a, b⟩; simp [h1] at b; omega
    have b : ¬ (-(v : Int) ≠ 0 ∧ kn (-(v : Int)).natAbs = -(v : Int)) := by rintro ⟨a, b⟩; simp [h1] at b; omega
    simp only [a, b, if_false, h1]
  · by_cases hp : 0 < kn v
    · have a : ((v : Int) ≠ 0 ∧ kn (v : Int).natAbs = v) := ⟨by omega, by simp; omega⟩
      simp only [a]
      simp
      omega
    · have a : ¬ ((v : Int) ≠ 0 ∧ kn (v : Int).natAbs = v) := by rintro ⟨a, b⟩; simp at b; omega
      have b : (-(v : Int) ≠ 0 ∧ kn (-(v : Int)).natAbs = -(v : Int)) := ⟨by omega, by simp; omega⟩
      simp only [a, if_false, b]
      simp
      omega
end U
end Go.Proofs.YtfhodbnhaaiceaaDoor
end

/- Maps of the call's own whose elements are values as they are; the state of a propagation in memory. -/
section
namespace Go.Proofs.YtfhodbnhaaiceaaDoor
open Go.RowKit Go.Conc
open Go.Maps (Keyed)
open Go.ChangeMaps Go.MapKept Go.Maps
namespace K
open L

theorem keyI : Keyed Tryd.prog 3 := Go.Maps.int_keyed Tryd.underlying3
theorem key_int {x : Int} (h : I64 x) : keyOf Tryd.prog 3 (.int .i64 x) = some (.int .i64 x) := keyOf_int_mk Tryd.underlying3 (WalkArith.wf_i64 h)

/-- An element reads as the value that it is. -/
def heldR (v : Value) : Option (DataW Value × List MemPlace) := some (.held v, [])
/-- Block b is a map of at most N entries, from ints: f says what a look-up gives; z: where there is no entry. -/
def MapV (w : World) (b N : Nat) (z : Value) (f : Int → Value) : Prop := ∃ D : DataW Value, w.ownsMap Tryd.prog 3 heldR b N D ∧ ∀ k, I64 k → D.atKey (.int .i64 k) (.held z) = .held (f k)

section
variable {w w' : World} {b N : Nat} {z : Value} {f : Int → Value} {t e : TypeId}
theorem MapV.made (w : World) (z : Value) : MapV (w.alloc (.map #[] 0)) w.heap.size 0 z (fun _ => z) := ⟨_, World.ownsMap_made w _ _ _, fun _ _ => rfl⟩
theorem MapV.made_at {w : World} {b : Nat} (hb : w.heap[b]? = some (.map #[] 0)) (z : Value) : MapV w b 0 z (fun _ => z) := ⟨.map [], ⟨#[], 0, hb, ⟨by simp, stamped_empty 0, by simp⟩, Nat.le_refl _, rfl⟩, fun k _ => rfl⟩
theorem MapV.lt (h : MapV w b N z f) : b < w.heap.size := by obtain ⟨D, h, _⟩ := h; exact h.lt
theorem MapV.of_block (h : MapV w b N z f) (e : w'.heap[b]? = w.heap[b]?) : MapV w' b N z f := by
  obtain ⟨D, ⟨es, clock, hb, F, hs, hD⟩, h2⟩ := h
  exact ⟨D, ⟨es, clock, e.trans hb, F, hs, hD⟩, h2⟩
theorem MapV.mono (h : MapV w b N z f) {N' : Nat} (hn : N ≤ N') : MapV w b N' z f := by obtain ⟨D, h, h2⟩ := h; exact ⟨D, h.mono hn, h2⟩
theorem MapV.look (h : MapV w b N z f) (ht : Tryd.prog.underlying t = some (.map 3 e)) (hz : (zeroValue e).run Tryd.prog w = .ok z w) {k : Int} (hk : I64 k) :
    (Instr.lookup t (.map (some b)) (.int .i64 k) false).run Tryd.prog w = .ok (f k) w := by
  obtain ⟨D, h, h2⟩ := h
  obtain ⟨v, ps, hr, hv⟩ := h.lookup keyI ht hz (zd := .held z) (zp := []) rfl (key_int hk)
  rw [h2 k hk] at hv
  simp only [heldR, Option.some.injEq, Prod.mk.injEq, DataW.held.injEq] at hv
  rw [hr, hv.1]
theorem MapV.store (h : MapV w b N z f) (ht : Tryd.prog.underlying t = some (.map 3 e)) (hn : N < maxLen) {k : Int} (hk : I64 k) (v : Value) :
    ∃ w', (Instr.mapUpdate t (.map (some b)) (.int .i64 k) v).run Tryd.prog w = .ok () w' ∧ MapV w' b (N + 1) z (U.upd f k v) ∧ w.grownBy w' (some b) := by
  obtain ⟨D, h, h2⟩ := h
  obtain ⟨w', hr, hm, hg⟩ := h.update keyI ht hn (key_int hk) (val := v) (d := .held v) (ps := []) rfl
  refine ⟨w', hr, ⟨_, hm, fun k' hk' => ?_⟩, hg⟩
  by_cases e : k' = k
  · subst e
    rw [U.upd_same]
    exact Go.Maps.atKey_put_same h.isMap (by simp [WideAt.IsKeyLit]) _ _
  · rw [U.upd_ne e, Go.Maps.atKey_put_other (by simpa using e)]
    exact h2 k' hk'
end
end K
end Go.Proofs.YtfhodbnhaaiceaaDoor
end
