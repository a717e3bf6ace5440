/- Several texts, joined. -/
import Derived.Test.YtfhodbnhaaiceaaDoorQ22
import Derived.ArgAppend
import Derived.Test.YtfhodbnhaaiceaaDoorQ03
import Derived.Test.YtfhodbnhaaiceaaDoorQ09

/- Contracts of rup's add and reject. -/
section
namespace Go.Proofs.YtfhodbnhaaiceaaDoor
open Go.RowKit RA
namespace L
open K
set_option maxRecDepth 100000

theorem wpList_append_by {ops : Array Oper} {rest : List Oper} {o : Oper} {a : Act} {Q : Exit → Act → World → Prop} {w : World} (hgd : o.guard = none) (s x : Operand) (t u : TypeId)
    (ho : o.op = .call { callee := .builtin .append, args := #[s, x], argTypes := #[t, u] }) (v xv : Value) (hs : a.eval s = v) (hx : a.eval x = xv) (R : Value → World → Prop)
    (hr : ∃ v' w', (Builtin.append_ #[t, u] o.type #[v, xv]).run Tryd.prog w = .ok v' w' ∧ R v' w')
    (h : ∀ v' w', R v' w' → wpList Tryd.prog ops Q rest (a.put o.dst v') w') : wpList Tryd.prog ops Q (o :: rest) a w := by
  refine wpList_plain hgd fun K hK => ?_
  obtain ⟨v', w', hr, h2⟩ := hr
  unfold Oper.wp execOp
  simp only [ho, resolve, invoke, builtin, Sem.run_bind, Sem.run_pure, Result.andThen_ok, List.map_toArray, List.map_cons, List.map_nil, hs, hx, hr]
  exact hK _ _ (h v' w' h2)

theorem infoR : (Tryd.prog.info? 23).map (fun i => (i.zero, i.size, i.bytes)) = some (some (.slice none 0 0), 1, 24) := by kernel_rfl
theorem getD_snoc {α : Type} (l : List α) (x d : α) (j : Nat) : (l ++ [x]).getD j d = if j < l.length then l.getD j d else if j = l.length then x else d := by
  split
  · rename_i h; simp [List.getD, List.getElem?_append_left h]
  · split
    · rename_i h; subst h; simp [List.getD]
    · rename_i h1 h2
      simp [List.getD, List.getElem?_append_right (show l.length ≤ j by omega), show j - l.length ≠ 0 by omega]

theorem owns_shape3 {w : World} {base : Nat} {e : TypeId} {size n : Nat} {v : Value} {xs : List Value} (h : w.ownsRow base e size v n xs) : ∃ p n c, v = .slice p n c := by
  obtain ⟨p, c, h⟩ := owns_shape h
  exact ⟨p, n, c, h⟩
/-- What an append of a clause leaves. -/
def Grown (w0 W : World) (G : List (List Int)) (v' : Value) (W' : World) : Prop :=
  Row w0 W' v' G ∧ (∃ p n c, v' = .slice p n c) ∧ ∃ row, W.grownBy W' row ∧ ∀ k, row = some k → w0.heap.size ≤ k ∧ ∃ cur, W.heap[k]? = some (.cells cur 23 (0, 0))

theorem run_append_row {w0 W : World} {v : Value} {G : List (List Int)} (h : Row w0 W v G) (hb : Below w0.heap.size w0 W) (hG : G.length ≤ 1000000) {c : List Int} {vc : Value} (hc : Ints w0 vc c) (ty : TypeId) :
    ∃ v' W', (Builtin.append_ #[24, 24] ty #[v, .slice (some ⟨W.heap.size, 0, none⟩) 1 1]).run Tryd.prog (W.alloc (.cells #[vc] 23)) = .ok v' W' ∧ Grown w0 (W.alloc (.cells #[vc] 23)) (G ++ [c]) v' W' := by
  obtain ⟨i, hi, hz, hs1, hb1⟩ := info_parts infoR
  obtain ⟨us, h1, h2, h3⟩ := h
  have hsz := hb.size
  have one : vc.oneCell' = true := by obtain ⟨p, cap, rfl, _⟩ := hc; rfl
  have hnew : ∀ j u, [vc][j]? = some u → (W.alloc (.cells #[vc] 23)).cell? ((⟨W.heap.size, 0, none⟩ : Addr).add j) = some u := by
    intro j u hj
    match j, hj with
    | 0, hj => simp at hj; subst hj; simp [Addr.add]
  have h1c : ∀ u ∈ [vc], u.oneCell' = true := by intro u hu; simp at hu; subst hu; exact one
  have hrow : ∀ v W', W'.ownsRow w0.heap.size 23 1 v (G.length + 1) (us ++ [vc]) → Row w0 W' v (G ++ [c]) := fun v W' ho => ⟨us ++ [vc], by simp [h1], fun j hj => by
    rw [getD_snoc, getD_snoc, h1]
    simp at hj
    split
    · rename_i hlt; exact h2 j hlt
    · rw [if_pos (by omega), if_pos (by omega)]; exact hc, .inr (by simpa using ho)⟩
  rcases h3 with ⟨p, rfl, hp⟩ | ho
  · by_cases h0 : 0 < G.length
    · obtain ⟨b, off, rfl, hcell⟩ := hp h0
      obtain ⟨v', W', hr, ho, hg⟩ := run_append_arg_grows (P := Tryd.prog) (W.alloc (.cells #[vc] 23)) 24 ty 23 i (.slice none 0 0) 1 24 Tryd.underlying24 hi hz hs1 hb1 rfl (by decide) ⟨b, off, none⟩ G.length G.length us (by rw [h1, Nat.mul_one])
        (fun j u hj => by
          have hj' : j < G.length := by rw [← h1]; exact (List.getElem?_eq_some_iff.1 hj).1
          have h4 := hcell j hj'
          have h5 : us.getD j (.slice none 0 0) = u := by simp [List.getD, hj]
          rw [h5] at h4
          rw [Addr.add_lit]
          exact ((((Below.refl _ _).alloc (Nat.le_refl _) _ : Below W.heap.size W _).cell (p := ⟨b, off + j, none⟩) (Nat.lt_of_lt_of_le (World.block_lt_of_cell? _ _ h4) hsz)).trans (hb.cell (p := ⟨b, off + j, none⟩) (World.block_lt_of_cell? _ _ h4))).trans h4)
        ⟨W.heap.size, 0, none⟩ 1 1 [vc] rfl hnew (by omega) (by unfold maxLen; omega) (by omega)
      exact ⟨v', W', hr, hrow _ _ (owns_base ho (by simp; omega)), owns_shape3 ho, none, hg, fun k hk => by cases hk⟩
    · have hG0 : G = [] := List.eq_nil_of_length_eq_zero (by omega)
      subst hG0
      have hus : us = [] := List.eq_nil_of_length_eq_zero (by simpa using h1)
      subst hus
      cases p with
      | some b =>
        obtain ⟨v', W', hr, ho, hg⟩ := run_append_arg_grows (P := Tryd.prog) (W.alloc (.cells #[vc] 23)) 24 ty 23 i (.slice none 0 0) 1 24 Tryd.underlying24 hi hz hs1 hb1 rfl (by decide) b 0 0 [] rfl
          (fun j u hj => by simp at hj) ⟨W.heap.size, 0, none⟩ 1 1 [vc] rfl hnew (by omega) (by unfold maxLen; omega) (by omega)
        exact ⟨v', W', hr, hrow _ _ (owns_base ho (by simp; omega)), owns_shape3 ho, none, hg, fun k hk => by cases hk⟩
      | none =>
        obtain ⟨v', W', hr, ho', hg, _⟩ := run_append_own (P := Tryd.prog) (W.alloc (.cells #[vc] 23)) w0.heap.size 24 ty 23 i (.slice none 0 0) 1 24 Tryd.underlying24 hi hz hs1 hb1 rfl (by decide) (.slice none 0 0) 0 [] (World.ownsRow_nil _ _ _ _) ⟨W.heap.size, 0, none⟩ 1 1 [vc] rfl hnew h1c (by unfold maxLen; omega) (by omega) (by simp; omega)
        exact ⟨v', W', hr, hrow _ _ ho', owns_shape3 ho', none, hg, fun k hk => by cases hk⟩
  · obtain ⟨v', W', hr, ho', hg, _⟩ := run_append_own (P := Tryd.prog) (W.alloc (.cells #[vc] 23)) w0.heap.size 24 ty 23 i (.slice none 0 0) 1 24 Tryd.underlying24 hi hz hs1 hb1 rfl (by decide) v G.length us (ho.alloc _) ⟨W.heap.size, 0, none⟩ 1 1 [vc] rfl hnew h1c (by unfold maxLen; omega) (by omega) (by simp; omega)
    refine ⟨v', W', hr, hrow _ _ ho', owns_shape3 ho', _, hg, fun k hk => ?_⟩
    obtain ⟨cur, hcur⟩ := owns_typed (ho.alloc (.cells #[vc] 23)) k hk
    exact ⟨((ho.alloc (.cells #[vc] 23)).lt k hk).1, cur, hcur⟩

theorem row_keep {w0 W W' : World} {v : Value} {G : List (List Int)} (h : Row w0 W v G) (hk : ∀ k, w0.heap.size ≤ k → (∃ cur, W.heap[k]? = some (.cells cur 23 (0, 0))) → W'.heap[k]? = W.heap[k]?) : Row w0 W' v G := by
  obtain ⟨us, h1, h2, h3⟩ := h
  refine ⟨us, h1, h2, h3.imp id fun ho => ?_⟩
  exact owns_of_block ho fun k hv => hk k (ho.lt k hv).1 (owns_typed ho k hv)

set_option maxHeartbeats 4000000 in
theorem add_any {w0 W : World} {bp bq bm N : Nat} {n : Int} {v : Value} {G : List (List Int)} {S : List UInt8 → Bool} (h : Prem w0 W bp bq bm n v G N S) (hG : G.length ≤ 1000000) (c : List Int) (vc : Value) (hc : Ints w0 vc c) :
    Calls Tryd.prog 57 #[.pointer (some ⟨bp, 0, none⟩), vc] W fun e W' => e = .returned (.tuple #[]) ∧ ∃ v', Prem w0 W' bp bq bm n v' (G ++ [c]) N S := by
  have happ := fun (q : Nat) ty => run_append_row (W := W.drewN q) (row_keep h.row fun _ _ _ => rfl) (below_drewN h.bel q) hG hc ty
  obtain ⟨pv, cv, hvs, hx1⟩ := h.lists hG
  obtain ⟨a1, c1, hcs, hx2⟩ := id hc
  subst hvs hcs
  clear hx1 hx2
  have d0 := h.box.cell 0
  have e1 := h.part.cell 1
  have f1 := h.part.frozen 1
  simp only [List.getElem?_toArray, List.getElem?_cons_zero, List.getElem?_cons_succ] at d0 e1
  have hlt : (G.length : Int) < 1048576 := by omega
  have hbl := h.part.lt
  have HP := Lib.hid h
  have HAPP := Lib.hid happ
  clear h happ hc
  go_enter Tryd.func57, Tryd.ntmps57
  go_wp2
  go_quiet (fail)
  go_wp2_with (at_builtin; refine wpList_append_by rfl _ _ 24 24 rfl _ _ rfl rfl _ (HAPP.out _ _) ?_)
  rintro v' w1 ⟨hrow, ⟨p', n', c', rfl⟩, row, hgr, hty⟩
  obtain ⟨o, ho⟩ : ∃ o : Obj, o = .cells #[.slice a1 c.length c1] 23 := ⟨_, rfl⟩
  rw [← ho] at hgr hty
  have far : ∀ (k : Nat) (x : Obj), W.heap[k]? = some x → (∀ cur, x ≠ Obj.cells cur 23 (0, 0)) → w1.heap[k]? = some x := by
    intro k x hx hne
    have hlt : k < W.heap.size := (Array.getElem?_eq_some_iff.1 hx).1
    have h1 : ((W.drewN nq).alloc o).heap[k]? = some x := (Deep.blk_alloc_lt _ _ _ hlt).trans hx
    refine (hgr.block k (Array.getElem?_eq_some_iff.1 h1).1 fun hr => ?_).trans h1
    obtain ⟨_, cur, hc⟩ := hty k hr.symm
    rw [h1] at hc
    exact hne cur (Option.some.inj hc)
  have h := HP.out
  have hbox : Box w1 bp 86 #[.slice (some ⟨bq, 0, none⟩) 1 1, .map (some bm)] := far bp _ h.box (fun cur e => by injection e with _ e _; cases e)
  have hpart : Box w1 bq 26 #[.int .i64 n, .slice pv G.length cv] := far bq _ h.part (fun cur e => by injection e with _ e _; cases e)
  have hmap : w1.heap[bm]? = W.heap[bm]? := by
    obtain ⟨es, clock, hm⟩ := h.map.obj
    rw [hm]
    exact far bm _ hm (fun cur e => by cases e)
  have hbel : Below w0.heap.size w0 w1 := ((below_drewN h.bel nq).alloc (by simpa using h.bel.size) o).grown hgr (by have := h.bel.size; simp; omega) (fun k hk => (hty k hk).1)
  have c1' := hpart.cell 1
  have f1' := hpart.frozen 1
  simp only [List.getElem?_toArray, List.getElem?_cons_zero, List.getElem?_cons_succ] at c1'
  have hfin : Prem w0 (w1.setCell ⟨bq, 1, none⟩ (.slice p' n' c')) bp bq bm n (.slice p' n' c') (G ++ [c]) N S :=
    { bel := hbel.setCell h.hq _
      hp := h.hp
      hq := h.hq
      hm := h.hm
      box := hbox.setOther _ (fun e => by
        simp only at e
        have h1 := hbox
        rw [e] at h1
        unfold Box at h1 hpart
        rw [hpart] at h1
        simp at h1) _
      part := by
        have := hpart.set 1 (.slice p' n' c')
        simpa using this
      map := h.map.of_block ((Deep.blk_setCell_other _ _ _ _ (fun e => by
        simp only at e
        obtain ⟨es, clock, hm⟩ := h.map.obj
        rw [e] at hm
        have h1 := h.part
        unfold Box at h1
        rw [hm] at h1
        cases h1)).trans hmap)
      row := row_keep hrow fun k hk ⟨cur, hc⟩ => Deep.blk_setCell_other _ _ _ _ (fun e => by
        simp only at e
        rw [e] at hc
        unfold Box at hpart
        rw [hpart] at hc
        simp at hc) }
  have HF := Lib.hid hfin
  clear hfin hbel hmap hpart hbox h far hrow hgr hty ho f1
  go_wp2
  refine bodyPost_ret (results_none rfl _ _ _) rfl ?_
  exact ⟨rfl, _, HF.out⟩

theorem prem_stored {w0 W W' : World} {bp bq bm : Nat} {n : Int} {v : Value} {G : List (List Int)} {N N' : Nat} {S S' : List UInt8 → Bool} (h : Prem w0 W bp bq bm n v G N S) (hm : MapS W' bm N' S') (hg : W.grownBy W' (some bm)) : Prem w0 W' bp bq bm n v G N' S' := by
  have far : ∀ (k : Nat) (x : Obj), W.heap[k]? = some x → (∀ es clock, x ≠ Obj.map es clock) → W'.heap[k]? = W.heap[k]? := by
    intro k x hx hne
    refine hg.block k (Array.getElem?_eq_some_iff.1 hx).1 fun hr => ?_
    obtain ⟨es, clock, ho⟩ := h.map.obj
    rw [← Option.some.inj hr, hx] at ho
    exact hne es clock (Option.some.inj ho)
  exact { bel := h.bel.grown hg h.bel.size (fun k hk => by cases hk; exact h.hm)
          hp := h.hp
          hq := h.hq
          hm := h.hm
          box := h.box.of_block (far _ _ h.box (fun _ _ e => by cases e))
          part := h.part.of_block (far _ _ h.part (fun _ _ e => by cases e))
          map := hm
          row := row_keep h.row fun k _ ⟨cur, hc⟩ => far k _ hc (fun _ _ e => by cases e) }
def RejR (w0 : World) (bp bq bm m N : Nat) (v : Value) (G : List (List Int)) (S : List UInt8 → Bool) (c : List Int) (e : Ending) (W' : World) : Prop :=
  ((S (KP.keyB c) = true ∨ S [] = true) ∧ e = .returned (.bool false) ∧ Prem w0 W' bp bq bm m v G N S) ∨
  (¬ Imp G c ∧ S (KP.keyB c) = false ∧ S [] = false ∧ e = .returned (.bool true) ∧ Prem w0 W' bp bq bm m v G N S) ∨
  (Imp G c ∧ e = .returned (.bool false) ∧ ∃ v', Prem w0 W' bp bq bm m v' (G ++ [c]) (N + 1) (updS S (KP.keyB c)))

set_option maxHeartbeats 8000000 in
theorem reject_any {w0 W : World} {bp bq bm m N : Nat} {v : Value} {G : List (List Int)} {S : List UInt8 → Bool} (h : Prem w0 W bp bq bm m v G N S) (h0 : checkF m G = 0) (hG : G.length ≤ 1000000) (c : List Int) (hc : U.Val m c) (vc : Value) (hv : Ints w0 vc c) (hlen : c.length ≤ 100000) (ht : Tab w0) (hN : N ≤ 1000000) :
    Calls Tryd.prog 38 #[.pointer (some ⟨bp, 0, none⟩), vc] W (RejR w0 bp bq bm m N v G S c) := by
  obtain ⟨hmm, _, _⟩ := checkF_ok h0
  have hci := val_i64 hmm hc
  have hkl : (KP.keyB c).length ≤ 2200000 := by
    have h1 := key_len (KP.uniq c) fun x hx => hci x (KP.mem_uniq.1 hx)
    have h2 := KP.uniq_len c
    unfold KP.keyB
    omega
  have hk1 := key_any vc c W hci (hv.below h.bel) (by omega) (ht.below h.bel)
  have hk0 := fun X (hb : Below W.heap.size W X) => key_any (.slice none 0 0) [] X (by simp) ⟨none, 0, rfl, Nat.le_refl _, by simp, fun h => absurd h (by simp)⟩ (by simp) ((ht.below h.bel).below hb)
  have himp := fun X (hb : Below W.heap.size W X) => imply_any (h.below hb) h0 hG c hc vc ((hv.below h.bel).below hb) (by omega)
  have hlk1 := fun X (hb : Below W.heap.size W X) (X' : World) (he : X'.heap = X.heap) => h.map.look (k := KP.keyB c) (by unfold maxLen; omega) X' (by rw [he]; exact hb.block _ h.map.lt)
  have hlk0 := fun X (hb : Below W.heap.size W X) (X' : World) (he : X'.heap = X.heap) => h.map.look (k := KP.keyB []) (by rw [KP.keyB_nil]; simp) X' (by rw [he]; exact hb.block _ h.map.lt)
  have hst := fun X (hb : Below W.heap.size W X) => (h.below hb).map.store (k := KP.keyB c) (by unfold maxLen; omega) (by unfold maxLen; omega)
  obtain ⟨K1, hK1⟩ : ∃ K : ByteArray, ⟨(KP.keyB c).toArray⟩ = K := ⟨_, rfl⟩
  obtain ⟨K0, hK0⟩ : ∃ K : ByteArray, ⟨(KP.keyB []).toArray⟩ = K := ⟨_, rfl⟩
  rw [hK1] at hk1 hlk1 hst
  rw [hK0] at hk0 hlk0
  obtain ⟨b1, hb1⟩ : ∃ b, S (KP.keyB c) = b := ⟨_, rfl⟩
  obtain ⟨b0, hb0⟩ : ∃ b, S (KP.keyB []) = b := ⟨_, rfl⟩
  rw [hb1] at hlk1
  rw [hb0] at hlk0
  rw [KP.keyB_nil] at hb0
  obtain ⟨a1, c1, rfl, _⟩ := id hv
  have HK0 := Lib.hid hk0
  have HI := Lib.hid himp
  have HL1 := Lib.hid hlk1
  have HL0 := Lib.hid hlk0
  have HST := Lib.hid hst
  have HP := Lib.hid h
  have HV := Lib.hid hv
  have HB1 := Lib.hid hb1
  have HB0 := Lib.hid hb0
  clear hk0 himp hlk1 hlk0 hst hb1 hb0 h hK1 hK0 ht hci hkl hv h0 hc
  go_enter Tryd.func38, Tryd.ntmps38
  go_wp2_with fail
  refine hk1.mono ?_
  rintro e w1 ⟨rfl, hbel⟩
  clear hk1
  have hbox := (HP.out.below hbel).box
  have k1 : ∀ x : Later w1.heap.size w1, x.W.cell? ⟨bp, 1, none⟩ = some (.map (some bm)) := fun x => by
    have h1 := (x.cell (p := ⟨bp, 1, none⟩) hbox.lt).trans (hbox.cell 1)
    simpa using h1
  have k2 : ∀ x : Later w1.heap.size w1, (Instr.lookup 84 (.map (some bm)) (.string K1) false).run Tryd.prog x.W = .ok (.bool b1) x.W := fun x => HL1.out x.W (hbel.trans (x.ok.mono hbel.size)) x.W rfl
  have k3 : ∀ x : Later w1.heap.size w1, (Instr.lookup 84 (.map (some bm)) (.string K0) false).run Tryd.prog x.W = .ok (.bool b0) x.W := fun x => HL0.out x.W (hbel.trans (x.ok.mono hbel.size)) x.W rfl
  have HBL := Lib.hid hbel
  clear hbel hbox
  cases b1 with
  | true =>
    go_wp2
    refine wp_region_later (B := w1.heap.size) (w0 := w1) (by kernel_rfl) (by kernel_rfl) (Below.refl _ _) ?_
    repeat (go_big_quiet_step (fail))
    refine wpQuiet_nil ?_
    rintro _ ⟨x, rfl⟩
    have HX := Lib.hid (HBL.out.trans (x.ok.mono HBL.out.size))
    go_wp2
    go_ret
    exact .inl ⟨.inl HB1.out, rfl, HP.out.below HX.out⟩
  | false =>
    cases b0 with
    | true =>
      go_wp2
      refine wp_region_later (B := w1.heap.size) (w0 := w1) (by kernel_rfl) (by kernel_rfl) (Below.refl _ _) ?_
      repeat (go_big_quiet_step ((go_at_call 56; exact later_mono _ (Nat.le_refl _) (HK0.out _ (HBL.out.trans ((Later.ok _).mono HBL.out.size))))))
      refine wpQuiet_nil ?_
      rintro _ ⟨x, rfl⟩
      have HX := Lib.hid (HBL.out.trans (x.ok.mono HBL.out.size))
      go_wp2
      go_ret
      exact .inl ⟨.inr HB0.out, rfl, HP.out.below HX.out⟩
    | false =>
      go_wp2
      refine wp_region_later (B := w1.heap.size) (w0 := w1) (by kernel_rfl) (by kernel_rfl) (Below.refl _ _) ?_
      repeat (go_big_quiet_step ((go_at_call 56; exact later_mono _ (Nat.le_refl _) (HK0.out _ (HBL.out.trans ((Later.ok _).mono HBL.out.size))))))
      refine wpQuiet_nil ?_
      rintro _ ⟨x, rfl⟩
      have HX := Lib.hid (HBL.out.trans (x.ok.mono HBL.out.size))
      clear k1 k2 k3
      have hii := HI.out _ HX.out
      obtain ⟨w2, hw2⟩ : ∃ X, x.W = X := ⟨_, rfl⟩
      rw [hw2] at HX hii ⊢
      clear hw2 HBL
      go_wp2_with fail
      refine hii.mono ?_
      rintro e w3 ⟨⟨b, rfl, hbb⟩, hb3⟩
      have hX3 := HX.out.trans (hb3.mono HX.out.size)
      have hbx := (HP.out.below hX3).box.cell 1
      simp only [List.getElem?_toArray, List.getElem?_cons_zero, List.getElem?_cons_succ] at hbx
      have HBB := Lib.hid hbb
      have HX3 := Lib.hid hX3
      clear hii hbb hb3 hX3
      cases b with
      | false =>
        go_wp2
        go_ret
        exact .inr (.inl ⟨fun hi => (by have := HBB.out.2 hi; cases this), HB1.out, HB0.out, rfl, HP.out.below HX3.out⟩)
      | true =>
        obtain ⟨w4, hr4, hm4, hg4⟩ := HST.out w3 HX3.out
        have hp4 := prem_stored (HP.out.below HX3.out) hm4 hg4
        have hadd := add_any hp4 hG c _ HV.out
        have hz : Imp G c := HBB.out.1 rfl
        have HZ := Lib.hid hz
        clear hp4 hm4 hg4 hz
        go_wp2_with fail
        refine hadd.mono ?_
        rintro e w5 ⟨rfl, v', hp5⟩
        have HP5 := Lib.hid hp5
        clear hadd hp5
        go_wp2
        go_ret
        exact .inr (.inr ⟨HZ.out, rfl, v', HP5.out⟩)
end L
end Go.Proofs.YtfhodbnhaaiceaaDoor
end

/- Premises that leave out clauses of which they have a part, plain. -/
section
namespace Go.Proofs.YtfhodbnhaaiceaaDoor
open Go.RowKit Go.Conc
namespace L
open K

/-- G has a part of each clause of H, and nothing else; S has texts of clauses of G alone. -/
structure Sub (H G : List (List Int)) (S : List UInt8 → Bool) : Prop where
  a : ∀ c ∈ G, c ∈ H
  b : ∀ c ∈ H, ∃ d ∈ G, ∀ x ∈ d, x ∈ c
  s : ∀ k, S k = true → ∃ d ∈ G, KP.keyB d = k
section
variable {H G : List (List Int)} {S : List UInt8 → Bool} {c : List Int}
theorem Sub.start (F : List (List Int)) : Sub F F (fun _ => false) := ⟨fun _ h => h, fun c h => ⟨c, h, fun _ hx => hx⟩, fun _ h => by cases h⟩
theorem Sub.der (h : Sub H G S) {A : List Int} {x : Int} (hd : U.Der H A x) : U.Der G A x ∨ U.Bad G A := by
  by_cases hb : U.Bad G A
  · exact .inr hb
  · left
    induction hd with
    | assume hx => exact .assume hx
    | @unit c x hc hx _ ih =>
      obtain ⟨d, hd, hsub⟩ := h.b c hc
      by_cases hxd : x ∈ d
      · exact .unit hd hxd fun y hy hne => ih y (hsub y hy) hne
      · exact absurd (.inr ⟨d, hd, fun y hy => ih y (hsub y hy) (fun e => hxd (e ▸ hy))⟩) hb
theorem Sub.bad (h : Sub H G S) {A : List Int} (hd : U.Bad H A) : U.Bad G A := by
  by_cases hb : U.Bad G A
  · exact hb
  · rcases hd with hx | ⟨c, hc, hy⟩
    · exact .inl hx
    · obtain ⟨d, hd, hsub⟩ := h.b c hc
      exact .inr ⟨d, hd, fun y hyd => (h.der (hy y (hsub y hyd))).resolve_right hb⟩
theorem Sub.imp (h : Sub H G S) : Imp H c ↔ Imp G c := ⟨fun hi => h.bad hi, fun hi => Imp.mono hi h.a fun _ hx => hx⟩
/-- A clause that was there. -/
theorem Sub.taken (h : Sub H G S) (ht : S (KP.keyB c) = true ∨ S [] = true) : Imp H c ∧ Sub (H ++ [c]) G S := by
  have hd : ∃ d ∈ G, ∀ x ∈ d, x ∈ c := by
    rcases ht with ht | ht
    · obtain ⟨d, hd, hk⟩ := h.s _ ht
      exact ⟨d, hd, fun x hx => (KP.key_same hk x).1 hx⟩
    · obtain ⟨d, hd, hk⟩ := h.s _ ht
      rw [KP.key_nil hk] at hd
      exact ⟨[], hd, fun x hx => by cases hx⟩
  obtain ⟨d, hdG, hsub⟩ := hd
  refine ⟨imp_own (h.a d hdG) hsub, fun a ha => List.mem_append_left _ (h.a a ha), fun a ha => ?_, h.s⟩
  rcases List.mem_append.1 ha with ha | ha
  · exact h.b a ha
  · simp at ha; subst ha; exact ⟨d, hdG, hsub⟩
/-- A clause more. -/
theorem Sub.more (h : Sub H G S) : Sub (H ++ [c]) (G ++ [c]) (updS S (KP.keyB c)) := by
  refine ⟨fun a ha => ?_, fun a ha => ?_, fun k hk => ?_⟩
  · rcases List.mem_append.1 ha with ha | ha
    · exact List.mem_append_left _ (h.a a ha)
    · exact List.mem_append_right _ ha
  · rcases List.mem_append.1 ha with ha | ha
    · obtain ⟨d, hd, hs⟩ := h.b a ha
      exact ⟨d, List.mem_append_left _ hd, hs⟩
    · exact ⟨a, List.mem_append_right _ ha, fun _ hx => hx⟩
  · unfold updS at hk
    by_cases he : k = KP.keyB c
    · exact ⟨c, List.mem_append_right _ (by simp), he.symm⟩
    · rw [if_neg he] at hk
      obtain ⟨d, hd, e⟩ := h.s k hk
      exact ⟨d, List.mem_append_left _ hd, e⟩
end

theorem firstE_all {n : Int} {p : List (List Int)} (h : firstE n p = 0) : ∀ c ∈ p, checkE n c = 0 := by
  induction p with
  | nil => intro c hc; cases hc
  | cons d p ih =>
    unfold firstE at h
    split at h
    · rename_i h0
      intro c hc
      rcases List.mem_cons.1 hc with rfl | hc
      · exact h0
      · exact ih h c hc
    · rename_i h0; exact absurd h h0
theorem firstE_of {n : Int} {p : List (List Int)} (h : ∀ c ∈ p, checkE n c = 0) : firstE n p = 0 := by
  induction p with
  | nil => rfl
  | cons d p ih =>
    unfold firstE
    rw [if_pos (h d (by simp))]
    exact ih fun c hc => h c (by simp [hc])
theorem checkE_ok {m : Nat} {c : List Int} (h : checkE m c = 0) : c.length ≤ 4096 ∧ U.Val m c := by
  unfold checkE at h
  split at h
  · cases h
  · split at h
    · cases h
    · split at h
      · cases h
      · rename_i h1 h2 h3
        exact ⟨by omega, val_of_any (by simpa using h3)⟩
theorem checkF_first {n : Int} {F : List (List Int)} (h : checkF n F = 0) : firstE n F = 0 := by
  have hr := checkF_range h
  unfold checkF at h
  rw [if_neg hr] at h
  split at h
  · cases h
  · exact h
theorem checkF_of {n : Int} {F G : List (List Int)} (h : checkF n F = 0) (hl : G.length ≤ 1048576) (hG : firstE n G = 0) : checkF n G = 0 := by
  have hr := checkF_range h
  unfold checkF
  rw [if_neg hr, if_neg (by omega), hG]
theorem checkF_more {n : Int} {G : List (List Int)} {c : List Int} (h : checkF n G = 0) (hl : G.length ≤ 1000000) (hc : checkE n c = 0) : checkF n (G ++ [c]) = 0 := by
  refine checkF_of h (by simp; omega) (firstE_of fun d hd => ?_)
  rcases List.mem_append.1 hd with hd | hd
  · exact firstE_all (checkF_first h) d hd
  · simp at hd; subst hd; exact hc
theorem take_snoc' {p : List (List Int)} {k : Nat} (hk : k < p.length) : p.take (k + 1) = p.take k ++ [p.getD k []] := by
  rw [List.take_add_one, List.getElem?_eq_getElem hk]; simp [List.getD, hk]
end L
end Go.Proofs.YtfhodbnhaaiceaaDoor
end
