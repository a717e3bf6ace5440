/- Several texts, joined. -/
import Derived.Test.YtlkhabdpancjjaaDoorQ07

/- The closure of dimacs.content as an iterator. -/
section
namespace Go.Proofs.YtlkhabdpancjjaaDoor
open Go.RowKit PA RA
namespace L
open K
attribute [local go_sem] Oper.semAt_some

/-- What a round of content is handed. -/
def CArg (cl : List (Int × List (List UInt8))) (H k : Nat) (A : World) (args : Array Value) : Prop :=
  ∃ (v : Value) (ws : List ByteArray) (bw : Nat), args = #[.int .i64 (cl.getD k (0, [])).1, v] ∧ lst ws = (cl.getD k (0, [])).2 ∧ H ≤ bw ∧ A.ownsRow bw 9 1 v ws.length (ws.map Value.string) ∧
    (∀ a ∈ ws, a.size ≤ 9223372036854775807) ∧ ws.length ≤ 9223372036854775807 ∧ H + 5 ≤ A.heap.size

/-- What stands between two rounds of the inner loop. -/
def CInv (s : ByteArray) (l H : Nat) (J : Nat → World → Prop) (j : Nat) (W : World) : Prop :=
  Box W H 77 #[.func (.yield l) #[] #[]] ∧ Box W (H + 1) 3 #[.int .i64 j] ∧ ∃ k, k ≤ (contentS 0 (lns s.data.toList)).length ∧ J k W ∧ contentS j ((lns s.data.toList).drop j) = (contentS 0 (lns s.data.toList)).drop k
def CInvX (s : ByteArray) (Jx : Nat → World → Prop) (c : Code) (_ : Nat) (W : World) : Prop := c = .ret ∧ ∃ k, k ≤ (contentS 0 (lns s.data.toList)).length ∧ Jx k W

theorem getD_of_dropG {α : Type} {L R : List α} {x d : α} {k : Nat} (h : x :: R = L.drop k) : k < L.length ∧ L.getD k d = x ∧ R = L.drop (k + 1) := by
  have hk : k < L.length := by
    by_cases hk : k < L.length
    · exact hk
    · rw [List.drop_eq_nil_of_le (by omega)] at h; cases h
  rw [List.drop_eq_getElem_cons hk] at h
  injection h with h1 h2
  exact ⟨hk, by rw [List.getD_eq_getElem?_getD, List.getElem?_eq_getElem hk]; exact h1.symm, h2⟩
theorem one_of {α : Type} {a : Array α} (h : a.size = 1) : ∃ x, a = #[x] := by
  obtain ⟨l⟩ := a
  match l, h with
  | [x], _ => exact ⟨x, rfl⟩
theorem lst_len (ws : List ByteArray) : (lst ws).length = ws.length := by unfold lst; simp
theorem lst_head (ws : List ByteArray) (a : ByteArray) (r : List ByteArray) (h : ws = a :: r) : (lst ws).head? = some a.data.toList := by rw [h]; rfl
theorem lineAt_data (s : ByteArray) (k : Nat) : (lineAt s k).data.toList = (lns s.data.toList).getD k [] := by unfold lineAt; simp
theorem lineAt_size (s : ByteArray) (k : Nat) (h : k < (lns s.data.toList).length) : (lineAt s k).size ≤ s.size := by
  rw [Lib.size_eq, Lib.size_eq, lineAt_data]
  refine line_len ?_
  rw [List.getD_eq_getElem?_getD, List.getElem?_eq_getElem h]
  exact List.getElem_mem h

set_option maxRecDepth 100000 in
set_option maxHeartbeats 4000000 in
theorem content_iter (s : ByteArray) (B H : Nat) (w : World) (hs : s.size ≤ 65536) (hbox : Box w B 9 #[.string s]) (hH : w.heap.size = H) :
    Iter Tryd.prog 43 #[.pointer (some ⟨B, 0, none⟩)] (contentS 0 (lns s.data.toList)).length (CArg (contentS 0 (lns s.data.toList)) H) (fun i => H ≤ i ∧ i < H + 5) w := by
  intro l J Jx hJ hJx hY h0
  have hc := hbox.cell 0
  simp only [List.getElem?_toArray, List.getElem?_cons_zero] at hc
  have hBlt : B < H := hH ▸ hbox.lt
  subst hH
  refine callsIn_of_wp_marks Tryd.func43 rfl trivial ?_ rfl
  simp only [Tryd.ntmps43, List.size_toArray, List.length_cons, List.length_nil, Nat.reduceAdd, Nat.reduceSub, Array.replicate_succ, Array.replicate_zero, List.push_toArray, List.append_toArray, List.nil_append, List.cons_append]
  gi_wp2
  refine ⟨trivial, rfl, (callsIn_wide.2 (linesfn_any _ _)).mono ?_⟩
  rintro e w' ⟨rfl, rfl⟩
  gi_wp2
  have hb0 : Box (((w.alloc (.cells #[.func (.yield l) #[] #[]] 77)).alloc (.cells #[.int .i64 0] 3)).alloc (.cells #[.string s] 9)) w.heap.size 77 #[.func (.yield l) #[] #[]] := ((Box.new _ _ _).alloc _).alloc _
  have hb1 : Box (((w.alloc (.cells #[.func (.yield l) #[] #[]] 77)).alloc (.cells #[.int .i64 0] 3)).alloc (.cells #[.string s] 9)) (w.heap.size + 1) 3 #[.int .i64 0] := (Box.at _ _ _ (by simp)).alloc _
  have hb2 : Box (((w.alloc (.cells #[.func (.yield l) #[] #[]] 77)).alloc (.cells #[.int .i64 0] 3)).alloc (.cells #[.string s] 9)) (w.heap.size + 2) 9 #[.string s] := Box.at _ _ _ (by simp)
  have hk0 : Keep (fun i => ¬ (w.heap.size ≤ i ∧ i < w.heap.size + 5)) w (((w.alloc (.cells #[.func (.yield l) #[] #[]] 77)).alloc (.cells #[.int .i64 0] 3)).alloc (.cells #[.string s] 9)) := (((Keep.refl _ _).alloc _).alloc _).alloc _
  have hsz : (((w.alloc (.cells #[.func (.yield l) #[] #[]] 77)).alloc (.cells #[.int .i64 0] 3)).alloc (.cells #[.string s] 9)).heap.size = w.heap.size + 3 := by simp
  have hj0 := hJ _ _ _ h0 hk0
  rw [show w.heap.size + 1 + 1 = w.heap.size + 2 from rfl]
  generalize (((w.alloc (.cells #[.func (.yield l) #[] #[]] 77)).alloc (.cells #[.int .i64 0] 3)).alloc (.cells #[.string s] 9)) = w0 at *
  generalize hHH : w.heap.size = H at *
  clear hk0 h0 hc hbox
  refine wpIn_range (gf := 55) (lb := #[.pointer (some ⟨H + 2, 0, none⟩)]) rfl (enters_of Tryd.func55 (by kernel_rfl) rfl) (N := (lns s.data.toList).length) (Arg := fun k _ args => args = #[.string (lineAt s k)]) (Z := fun i => i = H + 2)
    (fun W hk _ => lines_iter s (H + 2) W (by omega) (box_keep hb2 hk trivial)) (by omega) (by omega) (fun k A args h => by rw [h]; rfl) (fun k A B args h _ => h)
    (CInv s l H J) (CInvX s Jx) ?hI ?hIx ?h0
    (fun args => { tmps := #[.func (.yield l) #[] #[], .pointer (some ⟨B, 0, none⟩), .pointer (some ⟨H, 0, none⟩), .pointer (some ⟨H + 1, 0, none⟩), args.getD 0 undef, undef, .string s, .func (.func 55) #[] #[.pointer (some ⟨H + 2, 0, none⟩)], args.getD 0 undef,
      undef, undef, undef, undef, undef, undef, undef, undef, undef, undef, undef, undef, undef, undef, undef, undef, undef, undef], defers := [] }) ?assign ?body ?done ?stop
  case hI =>
    rintro j A B ⟨h1, h2, k, hk, hj, he⟩ hkp
    refine ⟨box_keep h1 hkp (by omega), box_keep h2 hkp (by omega), k, hk, hJ _ _ _ hj (hkp.mono fun i _ h => ?_), he⟩
    omega
  case hIx =>
    rintro c j A B ⟨rfl, k, hk, hj⟩ hkp
    exact ⟨rfl, k, hk, hJx _ _ _ hj (hkp.mono fun i _ h => by omega)⟩
  case h0 => exact ⟨hb0, hb1, 0, Nat.zero_le _, hj0, by simp⟩
  case assign =>
    intro l' args W K hsz1 hK
    obtain ⟨x, rfl⟩ := one_of hsz1
    gi_wp2
    exact hK
  case body =>
    rintro k W args hk rfl ⟨hy1, hn1, kk, hkk, hj, hcc⟩ hlt
    have hkb : k ≤ 65536 := by have := lns_le s.data.toList; rw [← Lib.size_eq] at this; omega
    have htd := lineAt_data s k
    have hts := lineAt_size s k hk
    generalize lineAt s k = t at *
    rw [show (#[Value.string t] : Array Value).getD 0 undef = .string t from rfl]
    obtain ⟨ws, hws⟩ : ∃ ws, Lib.goFieldsP sepR t = ws := ⟨_, rfl⟩
    have hlw : lst ws = words t.data.toList := by rw [← hws]; exact fields_words t
    have hwz : ∀ a ∈ ws, a.size ≤ 9223372036854775807 := fun a ha => by
      have := fields_size t sepR a (by rw [hws]; exact ha)
      omega
    have hwl : ws.length ≤ 65537 := by
      have := words_len t.data.toList
      rw [← hlw, lst_len, ← Lib.size_eq] at this
      omega
    have hbn := hn1.set 0 (.int .i64 ((k : Int) + 1))
    have hby := hy1.setOther ⟨H + 1, 0, none⟩ (by simp) (.int .i64 ((k : Int) + 1))
    have cn := hn1.cell 0; have fn := hn1.frozen 0
    simp only [List.getElem?_toArray, List.getElem?_cons_zero] at cn
    have hff := Tryd.strings_FieldsFunc 46 #[] (enters_of Tryd.func46 (by kernel_rfl) rfl) sepR t (W.setCell ⟨H + 1, 0, none⟩ (.int .i64 ((k : Int) + 1))) (by omega) (sep_at _)
    rw [hws] at hff
    have hkw : Keep (fun i => i ≠ H + 1) W (W.setCell ⟨H + 1, 0, none⟩ (.int .i64 ((k : Int) + 1))) := (Keep.refl _ _).setCell (fun h => h rfl) _
    have hszW : H + 5 ≤ (W.setCell ⟨H + 1, 0, none⟩ (.int .i64 ((k : Int) + 1))).heap.size := by simp [World.setCell]; omega
    generalize hW1 : W.setCell ⟨H + 1, 0, none⟩ (.int .i64 ((k : Int) + 1)) = W1 at *
    have HW1 := Lib.hid hW1
    have HTD := Lib.hid htd
    have HCC := Lib.hid hcc
    have HLW := Lib.hid hlw
    have HSZ := Lib.hid hsz
    have HWZ := Lib.hid hwz
    clear hW1 htd hcc hws hlw hsz hwz
    gi_wp2
    rw [HW1.out]
    refine ⟨trivial, rfl, (CallsIn.inRound _ (callsIn_wide.2 hff)).mono ?_⟩
    rintro e W2 ⟨A, rfl, hA, hown, hbel⟩
    have hy2 := hby.below hbel (by omega)
    have hn2 := hbn.below hbel (by omega)
    have cy := hy2.cell 0
    have cn2 := hn2.cell 0
    simp only [List.getElem?_toArray, List.getElem?_cons_zero, List.setIfInBounds_toArray, List.set_cons_zero] at cy cn2
    have HB12 : Hid (W1.heap.size ≤ W2.heap.size) := hbel.size
    have hkW2 : Keep (fun i => i ≠ H + 1) W W2 := hkw.below hbel
    have hj2 : J kk W2 := hJ _ _ _ hj (hkW2.mono fun i _ h => by omega)
    have hstay : Keep (fun i => i = H + 2 ∨ i = w0.heap.size ∨ i = w0.heap.size + 1) W W2 := hkW2.mono fun i _ h => by have := HSZ.out; omega
    have skip : Hid ((words t.data.toList = [] ∨ (words t.data.toList).head? = some [99]) → Keep (fun i => i = H + 2 ∨ i = w0.heap.size ∨ i = w0.heap.size + 1) W W2 ∧ CInv s l H J (k + 1) W2) := fun hc => by
      refine ⟨hstay, hy2, ?_, kk, hkk, hj2, ?_⟩
      · have := hn2; simpa using this
      · rw [← HCC.out, content_skip hk (by rw [← HTD.out]; exact hc)]
    have HST := Lib.hid hstay
    have HY2 := Lib.hid hy2
    have HN2 := Lib.hid hn2
    have HJ2 := Lib.hid hj2
    have HYY := Lib.hid hY
    have HJX := Lib.hid hJx
    have HJJ := Lib.hid hJ
    clear hstay hy2 hn2 hj2 hj hkW2 hkw hbn hby hb0 hb1 hb2 hj0 hy1 hn1 hff hY hJx hJ hbel
    cases hwse : ws with
    | nil =>
      subst hwse
      have hsk := skip.out (.inl (by rw [← HLW.out]; rfl))
      have HSK := Lib.hid hsk
      clear hsk
      simp only [List.length_nil]
      gi_wp2
      exact HSK.out
    | cons a rest =>
      have hpos : 0 < ws.length := by rw [hwse]; simp
      have hne : ((ws.length : Int) == 0) = false := beq_eq_false_iff_ne.2 (by omega)
      have ca := hown.cellAt 0 (by omega)
      rw [hwse] at ca
      simp only [List.map_cons, List.getElem?_cons_zero] at ca
      have hhead : (words t.data.toList).head? = some a.data.toList := by rw [← HLW.out]; exact lst_head ws a rest hwse
      have hwne : words t.data.toList ≠ [] := by intro h; rw [h] at hhead; cases hhead
      have HWE := Lib.hid hwse
      have HHD := Lib.hid hhead
      have HOWN := Lib.hid hown
      have HWN := Lib.hid hwne
      rw [← hwse]
      clear hwse hhead hown hwne
      by_cases h99 : a.data.toList = [99]
      · have hsk := skip.out (.inr (by rw [HHD.out, h99]))
        have HSK := Lib.hid hsk
        have e99 : (a.toList == [99]) = true := by rw [eq_str]; simpa using h99
        have e99' : a.toList = [99] := by simpa using e99
        clear hsk h99
        gi_wp2
        exact HSK.out
      · have e99 : (a.toList == [99]) = false := by rw [eq_str]; simpa using h99
        have e99' : ¬ a.toList = [99] := by simpa using e99
        have htk := content_take (L := lns s.data.toList) hk (by rw [← HTD.out, HHD.out]; rintro (h | h); exact HWN.out h; exact h99 (by simpa using h))
        rw [HCC.out, ← HTD.out] at htk
        obtain ⟨q1, q2, q3⟩ := getD_of_dropG (d := ((0 : Int), ([] : List (List UInt8)))) htk.symm
        have harg : CArg (contentS 0 (lns s.data.toList)) H kk W2 #[.int .i64 ((k : Int) + 1), .slice (some ⟨A, 0, none⟩) ws.length ws.length] :=
          ⟨_, ws, W1.heap.size, by rw [q2]; rfl, by rw [q2]; exact HLW.out, by omega, HOWN.out, HWZ.out, by omega, Nat.le_trans hszW HB12.out⟩
        obtain ⟨fn', tmps', assign', body', hyy, hR⟩ := HYY.out kk W2 _ q1 harg HJ2.out
        have HQ1 := Lib.hid q1
        have HQ3 := Lib.hid q3
        clear htk q1 q2 q3 harg h99
        gi_wp2
        refine ⟨rfl, RoundIn.mono (F := Fence.wide.inRound (w0.heap.size + 1)) hR ?_⟩
        rintro e W3 (⟨rfl, hJ3, hk3⟩ | ⟨rfl, hJx3, hk3⟩)
        · have hfin : Keep (fun i => i = H + 2 ∨ i = w0.heap.size ∨ i = w0.heap.size + 1) W W3 ∧ CInv s l H J (k + 1) W3 :=
            ⟨HST.out.trans (hk3.mono fun i _ h => by have := HSZ.out; omega), box_keep HY2.out hk3 (by omega), by have := box_keep HN2.out hk3 (by omega); simpa using this, kk + 1, HQ1.out, hJ3, HQ3.out⟩
          have HF := Lib.hid hfin
          clear hfin hJ3 hk3
          gi_wp2
          exact HF.out
        · have hfin : Keep (fun i => i = H + 2 ∨ i = w0.heap.size ∨ i = w0.heap.size + 1) W W3 ∧ CInvX s Jx .ret (k + 1) W3 :=
            ⟨HST.out.trans (hk3.mono fun i _ h => by have := HSZ.out; omega), rfl, kk + 1, HQ1.out, hJx3⟩
          have HF := Lib.hid hfin
          clear hfin hJx3 hk3
          gi_wp2
          exact HF.out
  case done =>
    rintro W ⟨h1, h2, k, hk, hj, he⟩ hD
    rw [content_end] at he
    have hkk : k = (contentS 0 (lns s.data.toList)).length := by
      have := List.drop_eq_nil_iff.1 he.symm
      omega
    subst hkk
    clear he
    have hq := hJ _ _ _ hj ((Keep.refl _ _).putObj (l := w0.heap.size) (fun h => h (by omega)) (.deferred none))
    gi_wp2
    refine ⟨by simp, .inl ⟨_, _, rfl, run_takeDeferred hD, ?_⟩⟩
    exact ⟨_, results_none rfl _ _ _, ⟨_, rfl⟩, .inl hq⟩
  case stop =>
    rintro c k W hk ⟨rfl, kk, hkk, hj⟩ hD
    have hq := hJx _ _ _ hj ((Keep.refl _ _).putObj (l := w0.heap.size) (fun h => h (by omega)) (.deferred none))
    gi_wp2
    refine ⟨by simp, .inl ⟨_, _, rfl, run_takeDeferred hD, ?_⟩⟩
    exact ⟨_, results_none rfl _ _ _, ⟨_, rfl⟩, .inr ⟨kk, hkk, hq⟩⟩
end L
end Go.Proofs.YtlkhabdpancjjaaDoor
end
