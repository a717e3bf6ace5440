/- Several texts, joined. -/
import Derived.Test.YtfhodbnhaaiceaaDoorQ06

/- Watching a clause, and leaving a literal of it, keep what is true. -/
section
namespace Go.Proofs.YtfhodbnhaaiceaaDoor
namespace U

theorem getD_mem {l : List Int} {j : Nat} (h : j < l.length) : l.getD j 0 ∈ l := by
  rw [List.getD, List.getElem?_eq_getElem h]; exact List.getElem_mem h
theorem getD_drop (l : List Int) (k j : Nat) : (l.drop k).getD j 0 = l.getD (k + j) 0 := by simp [List.getD]
theorem mem_at {l : List Int} {y : Int} (h : y ∈ l) : ∃ j, j < l.length ∧ l.getD j 0 = y := by
  obtain ⟨j, hj, rfl⟩ := List.getElem_of_mem h
  exact ⟨j, hj, by simp [List.getD, hj]⟩

/-- What the next literal is: there is none, or it is one. -/
theorem seek_spec (s : St) (i : Nat) (c : List Int) (o : Int) (hz : ∀ x ∈ c, x ≠ 0) (hx : s.nx i ≤ c.length) :
    (seekR s i c o = 0 ∧ (seekS s i c o).nx i = c.length ∧ ∀ j, s.nx i ≤ j → j < c.length → c.getD j 0 = o ∨ s.kn (c.getD j 0).natAbs = -(c.getD j 0)) ∨
    (seekR s i c o ∈ c ∧ seekR s i c o ≠ 0 ∧ seekR s i c o ≠ o ∧ s.kn (seekR s i c o).natAbs ≠ -(seekR s i c o) ∧ (seekS s i c o).nx i ≤ c.length ∧ s.nx i < (seekS s i c o).nx i ∧
      ∀ j, s.nx i ≤ j → j < (seekS s i c o).nx i → c.getD j 0 = o ∨ c.getD j 0 = seekR s i c o ∨ s.kn (c.getD j 0).natAbs = -(c.getD j 0)) := by
  have hd : (c.drop (s.nx i)).length = c.length - s.nx i := by simp
  have hnx : (seekS s i c o).nx i = s.nx i + (seekL s.kn o (c.drop (s.nx i))).2 := by simp [seekS, upd_same]
  rw [hnx]
  rcases seekL_spec s.kn o (c.drop (s.nx i)) (fun x h => hz x (List.mem_of_mem_drop h)) with ⟨h1, h2, h3⟩ | ⟨h1, h2, h3, h4, h5, h6, h7⟩
  · left
    refine ⟨h1, by rw [h2, hd]; omega, fun j hj hjc => ?_⟩
    have := h3 (j - s.nx i) (by rw [hd]; omega)
    rw [getD_drop, show s.nx i + (j - s.nx i) = j by omega] at this
    exact this
  · right
    refine ⟨List.mem_of_mem_drop h1, h2, h3, h4, by rw [hd] at h6; omega, by omega, fun j hj hjc => ?_⟩
    have := h7 (j - s.nx i) (by omega)
    rw [getD_drop, show s.nx i + (j - s.nx i) = j by omega] at this
    exact this

section
variable {n : Nat} {cs : List (List Int)} {A : List Int} {m : Nat} {x : Int} {rest : List Nat} {s : St}

/-- What changes of one clause that nobody watches yet is of no account to the others. -/
theorem Inv.own (h : Inv n cs A m 0 [] s) (s' : St) (hm : m < cs.length) (hk : s'.kn = s.kn) (hq : s'.q = s.q) (hn : ∀ i, i ≠ m → s'.nx i = s.nx i) (h0 : ∀ i, i ≠ m → s'.b0 i = s.b0 i) (h1 : ∀ i, i ≠ m → s'.b1 i = s.b1 i)
    (hW : ∀ z i, i ≠ m → (i ∈ s'.W z ↔ i ∈ s.W z)) (hnd : ∀ z, (s'.W z).Nodup)
    (hme : Sat s' (cs.getD m []) ∧ (∀ z, m ∉ s'.W z) ∨ ((∀ z, m ∈ s'.W z ↔ z = s'.b0 m ∨ z = s'.b1 m) ∧ Str s' (cs.getD m []) m ∧ s'.kn (s'.b0 m).natAbs ≠ -(s'.b0 m) ∧ s'.kn (s'.b1 m).natAbs ≠ -(s'.b1 m))) :
    Inv n cs A (m + 1) 0 [] s' := by
  have hSat : ∀ c, Sat s c ↔ Sat s' c := fun c => by simp only [Sat, hk]
  have hPend : ∀ z i, Pend s 0 [] z i ↔ Pend s' 0 [] z i := fun z i => by simp only [Pend, hq]
  have hStr : ∀ c i, i ≠ m → Str s c i → Str s' c i := fun c i hi ⟨a, b, c1, d, e⟩ => by
    simp only [Str, h0 i hi, h1 i hi, hn i hi, hk]
    exact ⟨a, b, c1, d, e⟩
  refine ⟨fun v => by rw [hk]; exact h.dom v, fun y hy e => h.snd y hy (by rw [← hk]; exact e), fun y hy => by rw [hk]; exact h.que y (by rw [← hq]; exact hy), by rw [hq]; exact h.nod, by rw [hq, hk]; exact h.cnt, hm, fun i hi => ?_, fun z i hi => ?_, hnd, fun i hi => by rw [hn i (by omega)]; exact h.new i (by omega)⟩
  · by_cases e : i = m
    · subst e
      rcases hme with ⟨h2, _⟩ | ⟨h2, h3, h4, h5⟩
      · exact .inl h2
      · exact .inr ⟨(h2 _).2 (.inl rfl), (h2 _).2 (.inr rfl), h3, fun hf => absurd hf h4, fun hf => absurd hf h5⟩
    · rcases h.live i (by omega) with h2 | ⟨a, b, c, d, f⟩
      · exact .inl ((hSat _).1 h2)
      · right
        have hO : ∀ z, Ok s 0 [] (cs.getD i []) z i → Ok s' 0 [] (cs.getD i []) z i := fun z hok hf => by
          rw [hk] at hf
          exact (hok hf).imp (hPend _ _).1 (hSat _).1
        rw [h0 i e, h1 i e]
        exact ⟨(hW _ i e).2 a, (hW _ i e).2 b, hStr _ _ e c, hO _ d, hO _ f⟩
  · by_cases e : i = m
    · subst e
      rcases hme with ⟨_, h2⟩ | ⟨h2, h3, h4, h5⟩
      · exact absurd hi (h2 z)
      · exact ⟨Nat.lt_succ_self _, h3, ((h2 z).1 hi).imp id .inl⟩
    · obtain ⟨a, b, c⟩ := h.occ z i ((hW z i e).1 hi)
      refine ⟨by omega, hStr _ _ e b, ?_⟩
      rw [h0 i e, h1 i e, hk]
      exact c.imp id (Or.imp id fun ⟨d, f⟩ => ⟨d, fun hp => f ((hPend _ _).2 hp)⟩)

theorem Inv.no_occ (h : Inv n cs A m x rest s) (z : Int) : m ∉ s.W z := fun hm => absurd (h.occ z m hm).1 (Nat.lt_irrefl _)

theorem learn_nx (s : St) (f : Nat → Nat) (x : Int) : learn { s with nx := f } x = ((learn s x).1, { (learn s x).2 with nx := f }) := by
  unfold learn learnS
  simp only []
  split
  · rfl
  · split <;> rfl
theorem learn_turned (s : St) (f : Nat → Nat) (g0 g1 : Nat → Int) (x : Int) : learn { s with nx := f, b0 := g0, b1 := g1 } x = ((learn s x).1, { (learn s x).2 with nx := f, b0 := g0, b1 := g1 }) := by
  unfold learn learnS
  simp only []
  split
  · rfl
  · split <;> rfl
theorem learn_same (s : St) (x : Int) : (learn s x).2.nx = s.nx ∧ (learn s x).2.b0 = s.b0 ∧ (learn s x).2.b1 = s.b1 := by
  unfold learn learnS
  split
  · exact ⟨rfl, rfl, rfl⟩
  · split <;> exact ⟨rfl, rfl, rfl⟩
theorem mem_push {s : St} {k i : Nat} {z y : Int} : i ∈ (push s k z).W y ↔ i ∈ s.W y ∨ (y = z ∧ i = k) := by
  simp only [push]
  by_cases e : y = z
  · subst e; rw [upd_same]; simp
  · rw [upd_ne e]; simp [e]
theorem push_nodup {s : St} {k : Nat} {z : Int} (h : ∀ y, (s.W y).Nodup) (hk : k ∉ s.W z) (y : Int) : ((push s k z).W y).Nodup := by
  simp only [push]
  by_cases e : y = z
  · subst e; rw [upd_same]
    rw [List.nodup_append]
    exact ⟨h y, by simp, fun a ha b hb => by simp at hb; subst hb; exact fun e => hk (e ▸ ha)⟩
  · rw [upd_ne e]; exact h y

theorem Inv.false_der (h : Inv n cs A m x rest s) {y : Int} (hy : y ≠ 0) (hf : s.kn y.natAbs = -y) : Der cs A (-y) := h.snd (-y) (by omega) (by simpa using hf)

theorem watch_inv (h : Inv n cs A m 0 [] s) (hm : m < cs.length) (hv : Val n (cs.getD m [])) :
    ((watch s m (cs.getD m [])).1 = true → Inv n cs A (m + 1) 0 [] (watch s m (cs.getD m [])).2 ∧ Mono s (watch s m (cs.getD m [])).2 ∧ mea n (watch s m (cs.getD m [])).2 ≤ mea n s) ∧ ((watch s m (cs.getD m [])).1 = false → Bad cs A) := by
  have hmem : cs.getD m [] ∈ cs := by rw [List.getD, List.getElem?_eq_getElem hm]; exact List.getElem_mem hm
  obtain ⟨c, ec⟩ : ∃ c, cs.getD m [] = c := ⟨_, rfl⟩
  rw [ec] at hmem hv ⊢
  have hz : ∀ x ∈ c, x ≠ 0 := fun x hx => (hv x hx).1
  have hnx : s.nx m = 0 := h.new m (Nat.le_refl _)
  have S1 := seek_spec s m c 0 hz (by omega)
  rw [hnx] at S1
  rcases S1 with ⟨a0, _, hall⟩ | ⟨ha, ha0, _, hna, hle, hlt, hpre⟩
  · have e : watch s m c = (false, seekS s m c 0) := by simp only [watch]; rw [if_pos a0]
    rw [e]
    refine ⟨fun h1 => absurd h1 (by simp), fun _ => .inr ⟨c, hmem, fun y hy => ?_⟩⟩
    obtain ⟨j, hj, rfl⟩ := mem_at hy
    rcases hall j (Nat.zero_le _) hj with h1 | h1
    · exact absurd h1 (hz _ hy)
    · exact h.false_der (hz _ hy) h1
  · obtain ⟨a, ea⟩ : ∃ a, seekR s m c 0 = a := ⟨_, rfl⟩
    rw [ea] at ha ha0 hna hpre
    have S2 := seek_spec (seekS s m c 0) m c a hz hle
    obtain ⟨b, eb⟩ : ∃ b, seekR (seekS s m c 0) m c a = b := ⟨_, rfl⟩
    rw [eb] at S2
    have hk1 : (seekS s m c 0).kn = s.kn := rfl
    rw [hk1] at S2
    rcases S2 with ⟨b0, hfull, hall⟩ | ⟨hb, hb0, hba, hnb, hle2, hlt2, hpre2⟩
    · have e : watch s m c = learn (seekS (seekS s m c 0) m c a) a := by simp only [watch, ea, eb]; rw [if_neg ha0, if_pos b0]
      have e2 : learn (seekS (seekS s m c 0) m c a) a = ((learn s a).1, { (learn s a).2 with nx := (seekS (seekS s m c 0) m c a).nx }) := learn_nx s _ a
      have hF : ∀ y ∈ c, y ≠ a → s.kn y.natAbs = -y := by
        intro y hy hya
        obtain ⟨j, hj, rfl⟩ := mem_at hy
        by_cases hjl : j < (seekS s m c 0).nx m
        · rcases hpre j (Nat.zero_le _) hjl with h1 | h1 | h1
          · exact absurd h1 (hz _ hy)
          · exact absurd h1 hya
          · exact h1
        · rcases hall j (by omega) hj with h1 | h1
          · exact absurd h1 hya
          · exact h1
      have hda : Der cs A a := .unit hmem ha fun y hy hne => h.false_der (hz y hy) (hF y hy hne)
      have ht : (learn s a).1 = true := by
        unfold learn
        rw [if_neg hna]
        split <;> rfl
      obtain ⟨i1, i2, i3, i4, i5, i6⟩ := learn_inv h ha0 (hv a ha).2 hda ht
      have hs := learn_same s a
      rw [e, e2, ht]
      refine ⟨fun _ => ⟨?_, i2, i4⟩, fun h1 => absurd h1 (by simp)⟩
      refine Inv.own i1 _ hm rfl rfl (fun i hi => ?_) (fun i _ => rfl) (fun i _ => rfl) (fun z i _ => Iff.rfl) i1.wnd (.inl ⟨⟨a, ?_, ha0, i3⟩, fun z => i1.no_occ z⟩)
      · rw [hs.1]
        simp only [seekS]
        rw [upd_ne hi, upd_ne hi]
      · rw [ec]; exact ha
    · obtain ⟨s', es⟩ : ∃ s', push (push { (seekS (seekS s m c 0) m c a) with b0 := upd (seekS (seekS s m c 0) m c a).b0 m a, b1 := upd (seekS (seekS s m c 0) m c a).b1 m b } m a) m b = s' := ⟨_, rfl⟩
      have e : watch s m c = (true, s') := by simp only [watch, ea, eb]; rw [if_neg ha0, if_neg hb0, es]
      rw [e]
      have g0 : s'.b0 m = a := by rw [← es]; simp [push, upd_same]
      have g1 : s'.b1 m = b := by rw [← es]; simp [push, upd_same]
      have gk : s'.kn = s.kn := by rw [← es]; rfl
      have gx : s'.nx = (seekS (seekS s m c 0) m c a).nx := by rw [← es]; rfl
      have gW : ∀ z i, i ∈ s'.W z ↔ (i ∈ s.W z ∨ (z = a ∧ i = m)) ∨ (z = b ∧ i = m) := fun z i => by rw [← es, mem_push, mem_push]; rfl
      have hno := h.no_occ
      refine ⟨fun _ => ⟨h.own s' hm gk (by rw [← es]; rfl) (fun i hi => ?_) (fun i hi => ?_) (fun i hi => ?_) (fun z i hi => ?_) ?_ (.inr ⟨fun z => ?_, ?_, ?_, ?_⟩), fun y _ e => by rw [gk]; exact e, Nat.le_of_eq (by rw [← es]; rfl)⟩, fun h1 => absurd h1 (by simp)⟩
      · rw [gx]; simp only [seekS]; rw [upd_ne hi, upd_ne hi]
      · rw [← es]; simp only [push]; rw [upd_ne hi]; rfl
      · rw [← es]; simp only [push]; rw [upd_ne hi]; rfl
      · rw [gW]; simp [hi]
      · rw [← es]
        refine push_nodup (push_nodup h.wnd (hno a)) fun h1 => ?_
        rcases mem_push.1 h1 with h2 | ⟨h2, _⟩
        · exact hno b h2
        · exact hba h2
      · rw [gW, g0, g1]
        simp [hno z]
      · rw [ec]
        simp only [Str]
        rw [g0, g1, gx, gk]
        refine ⟨ha, hb, fun e => hba e.symm, hle2, fun j hj => ?_⟩
        by_cases hjl : j < (seekS s m c 0).nx m
        · rcases hpre j (Nat.zero_le _) hjl with h1 | h1 | h1
          · exact absurd h1 (hz _ (getD_mem (by omega)))
          · exact .inl h1
          · exact .inr (.inr h1)
        · exact hpre2 j (by omega) hj
      · rw [g0, gk]; exact hna
      · rw [g1, gk]; exact hnb

/-- One watched clause is looked at. -/
theorem Inv.step {i : Nat} (h : Inv n cs A m x (i :: rest) s) (s' : St) (him : i < m) (hk : s'.kn = s.kn) (hq : s'.q = s.q) (hn : ∀ j, j ≠ i → s'.nx j = s.nx j) (h0 : ∀ j, j ≠ i → s'.b0 j = s.b0 j) (h1 : ∀ j, j ≠ i → s'.b1 j = s.b1 j)
    (hW : ∀ z j, j ≠ i → (j ∈ s'.W z ↔ j ∈ s.W z)) (hnd : ∀ z, (s'.W z).Nodup) (hS : Str s' (cs.getD i []) i)
    (hL : Sat s' (cs.getD i []) ∨ (i ∈ s'.W (s'.b0 i) ∧ i ∈ s'.W (s'.b1 i) ∧ Ok s' x rest (cs.getD i []) (s'.b0 i) i ∧ Ok s' x rest (cs.getD i []) (s'.b1 i) i))
    (hO : ∀ z, i ∈ s'.W z → z = s'.b0 i ∨ z = s'.b1 i ∨ (s'.kn z.natAbs = -z ∧ ¬ Pend s' x rest z i)) : Inv n cs A m x rest s' := by
  have hSat : ∀ c, Sat s c ↔ Sat s' c := fun c => by simp only [Sat, hk]
  have hPend : ∀ z j, j ≠ i → (Pend s x (i :: rest) z j ↔ Pend s' x rest z j) := fun z j hj => by simp only [Pend, hq, List.mem_cons, hj, false_or]
  have hStr : ∀ c j, j ≠ i → Str s c j → Str s' c j := fun c j hj ⟨a, b, c1, d, e⟩ => by
    simp only [Str, h0 j hj, h1 j hj, hn j hj, hk]
    exact ⟨a, b, c1, d, e⟩
  refine ⟨fun v => by rw [hk]; exact h.dom v, fun y hy e => h.snd y hy (by rw [← hk]; exact e), fun y hy => by rw [hk]; exact h.que y (by rw [← hq]; exact hy), by rw [hq]; exact h.nod, by rw [hq, hk]; exact h.cnt, h.mle, fun j hj => ?_, fun z j hj => ?_, hnd, fun j hj => by rw [hn j (by omega)]; exact h.new j (by omega)⟩
  · by_cases e : j = i
    · subst e
      rcases hL with h2 | ⟨h2, h3, h4, h5⟩
      · exact .inl h2
      · exact .inr ⟨h2, h3, hS, h4, h5⟩
    · rcases h.live j hj with h2 | ⟨a, b, c, d, f⟩
      · exact .inl ((hSat _).1 h2)
      · right
        have hO : ∀ z, Ok s x (i :: rest) (cs.getD j []) z j → Ok s' x rest (cs.getD j []) z j := fun z hok hf => by
          rw [hk] at hf
          exact (hok hf).imp (hPend _ _ e).1 (hSat _).1
        rw [h0 j e, h1 j e]
        exact ⟨(hW _ j e).2 a, (hW _ j e).2 b, hStr _ _ e c, hO _ d, hO _ f⟩
  · by_cases e : j = i
    · subst e
      exact ⟨him, hS, hO z hj⟩
    · obtain ⟨a, b, c⟩ := h.occ z j ((hW z j e).1 hj)
      refine ⟨a, hStr _ _ e b, ?_⟩
      rw [h0 j e, h1 j e, hk]
      exact c.imp id (Or.imp id fun ⟨d, f⟩ => ⟨d, fun hp => f ((hPend _ _ e).2 hp)⟩)

theorem turned_spec {s : St} {i : Nat} {x : Int} (h : x = s.b0 i ∨ x = s.b1 i) (hne : s.b0 i ≠ s.b1 i) :
    (turned s i x).b1 i = x ∧ (turned s i x).b0 i ≠ x ∧ ((turned s i x).b0 i = s.b0 i ∨ (turned s i x).b0 i = s.b1 i) ∧ (∀ z, z = s.b0 i ∨ z = s.b1 i ↔ z = (turned s i x).b0 i ∨ z = x) ∧
    (∀ j, j ≠ i → (turned s i x).b0 j = s.b0 j ∧ (turned s i x).b1 j = s.b1 j) ∧ (turned s i x).kn = s.kn ∧ (turned s i x).q = s.q ∧ (turned s i x).nx = s.nx ∧ (turned s i x).W = s.W := by
  unfold turned
  by_cases e : s.b0 i = x
  · rw [if_pos e]
    simp only [upd_same]
    refine ⟨trivial, fun e2 => hne (e.trans e2.symm), .inr trivial, fun z => by rw [e]; exact Or.comm, fun j hj => ⟨upd_ne hj, upd_ne hj⟩, trivial, trivial, trivial, trivial⟩
  · rw [if_neg e]
    have e2 : s.b1 i = x := by
      rcases h with h | h
      · exact absurd h.symm e
      · exact h.symm
    refine ⟨e2, e, .inl rfl, fun z => by rw [e2], fun j _ => ⟨rfl, rfl⟩, rfl, rfl, rfl, rfl⟩
end
end U
end Go.Proofs.YtfhodbnhaaiceaaDoor
end
