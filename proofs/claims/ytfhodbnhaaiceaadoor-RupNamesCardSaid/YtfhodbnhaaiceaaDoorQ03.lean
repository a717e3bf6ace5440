/- Several texts, joined. -/
import Derived.Test.YtfhodbnhaaiceaaDoorQ01
import Derived.Test.YtfhodbnhaaiceaaDoorQ02
import Derived.Lib.ItoaNum
import Derived.Lib.ItoaMem
import Derived.Lib.SlicesCompact

/- slices.Values, AppendSeq, Collect at []int. -/
section
namespace Go.Proofs.YtfhodbnhaaiceaaDoor
open Go.RowKit RA
namespace L
open K
attribute [local go_sem] Oper.semAt_some
set_option maxRecDepth 100000

theorem box_keep {W W' : World} {B : Nat} {T : TypeId} {cs : Array Value} (h : Box W B T cs) {p : Nat → Prop} (hk : Keep p W W') (hp : p B) : Box W' B T cs := hk.heap h hp
theorem owns_keep {W W' : World} {base : Nat} {e : TypeId} {size n : Nat} {v : Value} {xs : List Value} {p : Nat → Prop} (h : W.ownsRow base e size v n xs) (hk : Keep p W W') (hp : ∀ k, v.ownBlock = some k → p k) : W'.ownsRow base e size v n xs :=
  owns_of_block h fun k hv => hk.block k (h.lt k hv).2 (hp k hv)
theorem one_of {α : Type} {a : Array α} (h : a.size = 1) : ∃ x, a = #[x] := by
  obtain ⟨l⟩ := a
  match l, h with
  | [x], _ => exact ⟨x, rfl⟩

set_option maxHeartbeats 2000000 in
/-- The closure of slices.Values as an iterator. -/
theorem values_iter (p : Option Addr) (cap b off : Nat) (l : List Int) (B : Nat) (w : World) (_hl : l.length ≤ cap) (hm : l.length * 8 ≤ 140737488351232) (hp : 0 < l.length → p = some ⟨b, off, none⟩)
    (hc : ∀ j, j < l.length → w.cell? ⟨b, off + j, none⟩ = some (.int .i64 (l.getD j 0))) (hbox : Box w B 23 #[.slice p l.length cap]) :
    Iter Tryd.prog 74 #[.pointer (some ⟨B, 0, none⟩)] l.length (fun k _ args => args = #[.int .i64 (l.getD k 0)]) (fun i => i = b) (fun _ => False) w := by
  intro y J Jx hJ hJx hY h0
  have hcb := hbox.cell 0
  simp only [List.getElem?_toArray, List.getElem?_cons_zero] at hcb
  have HC := Lib.hid hc
  have HY := Lib.hid hY
  have HJ := Lib.hid hJ
  have HP := Lib.hid hp
  have HM := Lib.hid hm
  have H0 := Lib.hid h0
  clear hc hY hJ hJx hp hbox hm h0
  refine callsIn_of_wp Tryd.func74 rfl trivial ?_ rfl
  simp only [Tryd.ntmps74, List.size_toArray, List.length_cons, List.length_nil, Nat.reduceAdd, Nat.reduceSub, Array.replicate_succ, Array.replicate_zero, List.push_toArray, List.append_toArray, List.nil_append, List.cons_append]
  gi_wp2
  gi_loopw [4, 7] (fun _ i wr => ∃ k : Nat, k ≤ l.length ∧ i = .int .i64 k ∧ J k wr ∧ Keep (fun i => i = b) w wr) (fun _ i _ => l.length - (intOf i).toNat)
  case atStart => exact ⟨0, Nat.zero_le _, rfl, H0.out, Keep.refl _ _⟩
  case round =>
    obtain ⟨k, hk, rfl, hj, hke⟩ := hrel
    have HJJ := Lib.hid hj
    have HKE := Lib.hid hke
    by_cases hlt : k < l.length
    · have hpp := HP.out (by omega)
      subst hpp
      have e1 := HKE.out.cell (HC.out k hlt) rfl
      obtain ⟨fn, tmps, assign, body, hy, hR⟩ := HY.out k wr _ hlt rfl HJJ.out
      have hmm := HM.out
      generalize l.getD k 0 = x at *
      clear hj hke
      gi_wp2
      refine ⟨(by simp [Fence.wide]), hR.mono ?_⟩
      rintro e W3 (⟨rfl, hJ3, hk3⟩ | ⟨rfl, hJx3, _⟩)
      · have HJ3 := Lib.hid hJ3
        have HK3 := Lib.hid (HKE.out.trans hk3)
        clear hJ3 hk3 hR
        gi_wp2
        go_roundw
        case rel => exact ⟨k + 1, by omega, by go_num, HJ3.out, HK3.out⟩
        case measure => simp [intOf]; omega
      · have HJ3 := Lib.hid hJx3
        clear hJx3 hR
        gi_wp2
        refine bodyPost_ret (results_none rfl _ _ _) rfl ?_
        exact ⟨⟨_, rfl⟩, .inr ⟨k + 1, by omega, HJ3.out⟩⟩
    · obtain rfl : k = l.length := by omega
      clear hj hke
      gi_wp2
      go_end0
      exact ⟨⟨_, rfl⟩, .inl HJJ.out⟩
end L
end Go.Proofs.YtfhodbnhaaiceaaDoor
end

/- AppendSeq, Collect, Values at []int. -/
section
namespace Go.Proofs.YtfhodbnhaaiceaaDoor
open Go.RowKit RA
namespace L
open K
attribute [local go_sem] Oper.semAt_some
set_option maxRecDepth 100000

theorem keep_grown {p : Nat → Prop} {a b c : World} {row : Option Nat} (h : Keep p a b) (hg : b.grownBy c row) (hr : ∀ k, row = some k → ¬ p k) : Keep p a c :=
  h.trans ⟨hg.os, hg.tape, hg.output, hg.size, fun k hk hp => hg.block k hk (fun e => hr k e.symm hp)⟩

/-- Between two rounds of AppendSeq. -/
def SInv (w : World) (H : Nat) (l : List Int) (k : Nat) (W : World) : Prop :=
  Keep (fun i => i < H) w W ∧ ∃ u, Box W H 23 #[u] ∧ OwnI W (H + 3) u (l.take k)

theorem SInv.keep {w A B : World} {H : Nat} {l : List Int} {k : Nat} (h : SInv w H l k A) (_hs : w.heap.size = H) (hk : Keep (fun i => i ≠ H + 1 ∧ i ≠ H + 2) A B) : SInv w H l k B := by
  obtain ⟨h1, u, h2, h3⟩ := h
  exact ⟨h1.trans (hk.mono fun i _ hi => by omega), u, box_keep h2 hk (by omega), owns_keep h3 hk fun j hj => by have := (h3.lt j hj).1; omega⟩

set_option maxHeartbeats 4000000 in
theorem appendseq_any (p : Option Addr) (cap b off : Nat) (l : List Int) (B : Nat) (w : World) (hl : l.length ≤ cap) (hm : l.length * 8 ≤ 140737488351232) (hp : 0 < l.length → p = some ⟨b, off, none⟩)
    (hc : ∀ j, j < l.length → w.cell? ⟨b, off + j, none⟩ = some (.int .i64 (l.getD j 0))) (hbw : b < w.heap.size) (hbox : Box w B 23 #[.slice p l.length cap]) :
    Calls Tryd.prog 76 #[.slice none 0 0, .func (.func 74) #[] #[.pointer (some ⟨B, 0, none⟩)]] w fun e w' => ∃ u, e = .returned u ∧ OwnI w' w.heap.size u l ∧ Below w.heap.size w w' := by
  have hBlt := hbox.lt
  obtain ⟨i0, hi, hz0, hz1, hz2⟩ := info_parts info3
  refine (callsIn_wide (n := 0)).1 (callsIn_of_wp_marks Tryd.func76 rfl trivial ?_ rfl)
  simp only [Tryd.ntmps76, List.size_toArray, List.length_cons, List.length_nil, Nat.reduceAdd, Nat.reduceSub, Array.replicate_succ, Array.replicate_zero, List.push_toArray, List.append_toArray, List.nil_append, List.cons_append]
  gi_wp2
  have hb0 : Box (w.alloc (.cells #[.slice none 0 0] 23)) w.heap.size 23 #[.slice none 0 0] := Box.new _ _ _
  have hk0 : Keep (fun _ => True) w (w.alloc (.cells #[.slice none 0 0] 23)) := (Keep.refl _ _).alloc _
  have hsz : (w.alloc (.cells #[.slice none 0 0] 23)).heap.size = w.heap.size + 1 := by simp
  generalize (w.alloc (.cells #[.slice none 0 0] 23)) = w0 at *
  refine wpIn_range (gf := 74) (lb := #[.pointer (some ⟨B, 0, none⟩)]) rfl (enters_of Tryd.func74 (by kernel_rfl) rfl) (N := l.length) (Arg := fun k _ args => args = #[.int .i64 (l.getD k 0)]) (Z := fun i => i = b) (Y := fun _ => False)
    (fun W hk _ => values_iter p cap b off l B W hl hm hp (fun j hj => (hk0.trans hk).cell (hc j hj) trivial) (box_keep hbox (hk0.trans hk) trivial)) (by omega) (fun h => h) (fun h => h) (fun k A args h => by rw [h]; rfl) (fun k A B args h _ => h)
    (SInv w w.heap.size l) (fun _ _ _ => False) ?hI ?hIx ?h0
    (fun args => { tmps := #[.slice none 0 0, .func (.func 74) #[] #[.pointer (some ⟨B, 0, none⟩)], .pointer (some ⟨w.heap.size, 0, none⟩), undef, .slice none 0 0, args.getD 0 undef, .func (.func 74) #[] #[.pointer (some ⟨B, 0, none⟩)], args.getD 0 undef, undef, undef, undef, undef, undef], defers := [] }) ?assign ?body ?done ?stop
  case hI =>
    rintro k A B h hk
    exact h.keep rfl (hk.mono fun i _ hi => fun hor => by rcases hor with h | h | h; exact h; omega; omega)
  case hIx => intro c k A B h; exact h.elim
  case h0 => exact ⟨hk0.mono fun _ _ _ => trivial, _, hb0, OwnI.nil _ _⟩
  case assign =>
    intro l' args W K hsz1 hK
    obtain ⟨x, rfl⟩ := one_of hsz1
    gi_wp2
    exact hK
  case body =>
    rintro k W args hk rfl ⟨h1, u, h2, h3⟩ hlt
    have cu := h2.cell 0
    have fu := h2.frozen 0
    simp only [List.getElem?_toArray, List.getElem?_cons_zero] at cu
    have HT := Lib.hid (take_succ' l k hk)
    have hown : W.ownsRow (w.heap.size + 3) 3 1 u k ((l.take k).map (Value.int .i64)) := by
      have := h3
      unfold OwnI at this
      rw [List.length_take, Nat.min_eq_left (Nat.le_of_lt hk)] at this
      exact this
    have hzz : w.heap.size + 2 < W.heap.size := by omega
    generalize hx1 : l.getD k 0 = x1 at HT ⊢
    have HX1 := Lib.hid hx1
    have H1 := Lib.hid h1
    have H2 := Lib.hid h2
    have HS := Lib.hid hsz
    clear hx1 h1 h2 h3 hc hp hk0 hb0 hbox hsz
    gi_wp2_with (first
      | (gi_at_builtin; refine wpListIn_append_own _ rfl _ _ 23 rfl (w.heap.size + 3) 3 i0 (.int .i64 0) 1 8 Tryd.underlying23 hi hz0 hz1 hz2 rfl (by decide) _ _ _ rfl (hown.alloc _) ⟨W.heap.size, 0, none⟩ 1 1 [.int .i64 x1] rfl rfl ?c1 ?c2 ?c3 ?c4 ?c5 ?_)
      | gi_in)
    case c1 =>
      intro j u hj
      match j, hj with
      | 0, hj => simp at hj; subst hj; simp [Addr.add]
    case c2 => intro u hu; simp at hu; subst hu; rfl
    case c3 => unfold maxLen; omega
    case c4 => omega
    case c5 => simp; omega
    intro v' w1 hown' hgrow _
    have hlt2 := fun k hk => (hown.lt k hk).1
    have hne : ∀ k, u.ownBlock = some k → k ≠ w.heap.size := fun k hk => by have := hlt2 k hk; omega
    have hbx := ((H2.out.alloc (.cells #[.int .i64 x1] 3)).grown hgrow (fun e => hne _ e.symm rfl))
    have cu1 := hbx.cell 0
    have fu1 := hbx.frozen 0
    simp only [List.getElem?_toArray, List.getElem?_cons_zero] at cu1
    have kk : Keep (fun i => i ≠ w.heap.size ∧ ¬ u.ownBlock = some i) W (w1.setCell ⟨w.heap.size, 0, none⟩ v') :=
      ((keep_grown ((Keep.refl _ _).alloc _) hgrow fun k hk hn => hn.2 hk).setCell (fun h => h.1 rfl) _)
    have hfin : Keep (fun i => i = b ∨ i = w0.heap.size ∨ i = w0.heap.size + 1) W (w1.setCell ⟨w.heap.size, 0, none⟩ v') ∧ SInv w w.heap.size l (k + 1) (w1.setCell ⟨w.heap.size, 0, none⟩ v') := by
      have hs := HS.out
      refine ⟨kk.mono fun i _ hi => ⟨by omega, fun he => by have := hlt2 i he; omega⟩, H1.out.trans (kk.mono fun i _ hi => ⟨by omega, fun he => by have := hlt2 i he; omega⟩), v', ?_, ?_⟩
      · have := hbx.set 0 v'; simpa using this
      · unfold OwnI
        rw [HT.out, List.length_append, List.length_take, Nat.min_eq_left (Nat.le_of_lt hk)]
        refine owns_of_block (by simpa using hown') fun j hj => Deep.blk_setCell_other _ _ _ _ ?_
        have := (hown'.lt j hj).1
        simp; omega
    have HF := Lib.hid hfin
    obtain ⟨pv, cv, rfl⟩ := owns_shape hown'
    clear hown hgrow hown' hfin kk hbx hlt2 hne cu
    gi_wp2
    exact HF.out
  case done =>
    rintro W ⟨h1, u, h2, h3⟩ hD
    rw [List.take_length] at h3
    have cu := h2.cell 0
    simp only [List.getElem?_toArray, List.getElem?_cons_zero] at cu
    have hfin : OwnI (W.putObj w0.heap.size (.deferred none)) w.heap.size u l ∧ Below w.heap.size w (W.putObj w0.heap.size (.deferred none)) := by
      refine ⟨owns_base (owns_of_block h3 fun j hj => World.putObj_heap_other ?_) (by omega), ?_⟩
      · have := (h3.lt j hj).1; omega
      · exact (h1.putObj (by omega) _).to_below (Nat.le_refl _) (fun _ h => h)
    have HF := Lib.hid hfin
    clear hfin h1 h2 h3
    gi_wp2
    refine ⟨by simp, .inl ⟨_, _, rfl, run_takeDeferred hD, ?_⟩⟩
    exact ⟨_, results_tmp rfl _ _ _, u, rfl, HF.out⟩
  case stop => intro c k W hk h; exact h.elim
end L
end Go.Proofs.YtfhodbnhaaiceaaDoor
end

/- The text that stands for a clause's literals, plain. -/
section
namespace Go.Proofs.KP
open Go.Lib

theorem mem_compactUpTo {d : Array Int} {m : Nat} (_hm : m ≤ d.size) {x : Int} : x ∈ compactUpTo d m ↔ ∃ j, j < m ∧ d[j]! = x := by
  unfold compactUpTo
  rw [List.mem_map]
  constructor
  · rintro ⟨j, hj, rfl⟩
    exact ⟨j, List.mem_range.1 (List.mem_filter.1 hj).1, rfl⟩
  · rintro ⟨j, hj, rfl⟩
    induction j with
    | zero => exact ⟨0, List.mem_filter.2 ⟨List.mem_range.2 hj, by simp [keeps]⟩, rfl⟩
    | succ j ih =>
      by_cases hk : keeps d (j + 1) = true
      · exact ⟨j + 1, List.mem_filter.2 ⟨List.mem_range.2 hj, hk⟩, rfl⟩
      · have he : d[j + 1]! = d[j]! := by
          unfold keeps at hk
          simp at hk
          simpa using hk
        rw [he]
        exact ih (by omega)
theorem mem_compact {zs : List Int} {x : Int} : x ∈ compact zs ↔ x ∈ zs := by
  unfold compact
  rw [mem_compactUpTo (by simp)]
  constructor
  · rintro ⟨j, hj, rfl⟩
    rw [getElem!_pos zs.toArray j (by simpa using hj)]
    simp
  · intro h
    obtain ⟨j, hj, rfl⟩ := List.getElem_of_mem h
    exact ⟨j, hj, by rw [getElem!_pos zs.toArray j (by simpa using hj)]; simp⟩
theorem compact_len (zs : List Int) : (compact zs).length ≤ zs.length := by
  unfold compact compactUpTo
  rw [List.length_map]
  exact Nat.le_trans (List.length_filter_le _ _) (by simp)

/-- The literals, each once, ascending. -/
def uniq (c : List Int) : List Int := compact (c.mergeSort fun x y => decide (x ≤ y))
theorem mem_uniq {c : List Int} {x : Int} : x ∈ uniq c ↔ x ∈ c := by
  unfold uniq
  rw [mem_compact, List.mem_mergeSort]
theorem uniq_len (c : List Int) : (uniq c).length ≤ c.length := by
  unfold uniq
  refine Nat.le_trans (compact_len _) ?_
  rw [List.length_mergeSort]; exact Nat.le_refl _
/-- The text. -/
def keyB (c : List Int) : List UInt8 := (uniq c).flatMap fun x => itoa x ++ [32]

def valD (l : List UInt8) : Nat := l.foldl (fun a b => 10 * a + (b.toNat - 48)) 0
theorem dig_nat {d : Nat} (h : d < 10) : (UInt8.ofNat (48 + d)).toNat = 48 + d := by
  rw [UInt8.toNat_ofNat']; omega
theorem val_dec (u : Nat) : valD (decDigits u) = u := by
  induction u using Nat.strongRecOn with
  | _ u ih =>
    rw [decDigits]
    split
    · rename_i h
      unfold valD
      rw [List.foldl_cons, List.foldl_nil, dig_nat h]; omega
    · rename_i h
      have := ih (u / 10) (by omega)
      unfold valD at *
      rw [List.foldl_append, this, List.foldl_cons, List.foldl_nil, dig_nat (Nat.mod_lt _ (by omega))]
      omega
theorem dec_digit (u : Nat) : ∀ b ∈ decDigits u, 48 ≤ b.toNat ∧ b.toNat ≤ 57 := by
  induction u using Nat.strongRecOn with
  | _ u ih =>
    rw [decDigits]
    split
    · rename_i h
      intro b hb
      simp only [List.mem_singleton] at hb
      subst hb
      rw [dig_nat h]; omega
    · rename_i h
      intro b hb
      rcases List.mem_append.1 hb with hb | hb
      · exact ih _ (by omega) b hb
      · simp only [List.mem_singleton] at hb
        subst hb
        rw [dig_nat (Nat.mod_lt _ (by omega))]
        have := Nat.mod_lt u (show 0 < 10 by omega)
        omega
theorem dec_inj {u v : Nat} (h : decDigits u = decDigits v) : u = v := by rw [← val_dec u, h, val_dec]
theorem dec_no (u : Nat) (c : UInt8) (hc : c.toNat < 48) : c ∉ decDigits u := fun h => by have := dec_digit u c h; omega
theorem itoa_no (n : Int) : (32 : UInt8) ∉ itoa n := by
  unfold itoa
  split
  · intro h
    rcases List.mem_cons.1 h with h | h
    · cases h
    · exact dec_no _ 32 (by decide) h
  · exact dec_no _ 32 (by decide)
theorem itoa_inj {m n : Int} (h : itoa m = itoa n) : m = n := by
  unfold itoa at h
  split at h <;> split at h
  · injection h with _ h
    have := dec_inj h; omega
  · exact absurd (h ▸ List.mem_cons_self) (dec_no n.toNat 45 (by decide))
  · exact absurd (h.symm ▸ List.mem_cons_self) (dec_no m.toNat 45 (by decide))
  · have := dec_inj h; omega
theorem cut_eq {a b r s : List UInt8} (ha : (32 : UInt8) ∉ a) (hb : (32 : UInt8) ∉ b) (h : a ++ 32 :: r = b ++ 32 :: s) : a = b ∧ r = s := by
  induction a generalizing b with
  | nil =>
    cases b with
    | nil => injection h with _ h; exact ⟨rfl, h⟩
    | cons y b => injection h with h1 _; exact absurd (h1 ▸ List.mem_cons_self) hb
  | cons x a ih =>
    cases b with
    | nil => injection h with h1 _; exact absurd (h1.symm ▸ List.mem_cons_self) ha
    | cons y b =>
      injection h with h1 h2
      obtain ⟨h3, h4⟩ := ih (fun h => ha (List.mem_cons_of_mem _ h)) (fun h => hb (List.mem_cons_of_mem _ h)) h2
      exact ⟨by rw [h1, h3], h4⟩
theorem flat_inj {l m : List Int} (h : (l.flatMap fun x => itoa x ++ [32]) = m.flatMap fun x => itoa x ++ [32]) : l = m := by
  induction l generalizing m with
  | nil =>
    cases m with
    | nil => rfl
    | cons y m =>
      simp only [List.flatMap_nil, List.flatMap_cons, List.append_assoc, List.singleton_append] at h
      exact absurd h.symm (by simp)
  | cons x l ih =>
    cases m with
    | nil =>
      simp only [List.flatMap_nil, List.flatMap_cons, List.append_assoc, List.singleton_append] at h
      exact absurd h (by simp)
    | cons y m =>
      simp only [List.flatMap_cons, List.append_assoc, List.singleton_append] at h
      obtain ⟨h1, h2⟩ := cut_eq (itoa_no x) (itoa_no y) h
      rw [itoa_inj h1, ih h2]
/-- The same text, the same literals. -/
theorem key_same {c d : List Int} (h : keyB c = keyB d) (x : Int) : x ∈ c ↔ x ∈ d := by
  have h1 : uniq c = uniq d := flat_inj h
  rw [← mem_uniq, h1, mem_uniq]
theorem keyB_nil : keyB [] = [] := by
  have h : uniq [] = [] := List.eq_nil_of_length_eq_zero (Nat.le_zero.1 (uniq_len []))
  unfold keyB
  rw [h]; rfl
theorem key_nil {c : List Int} (h : keyB c = []) : c = [] := by
  have h1 : keyB c = keyB [] := by rw [h, keyB_nil]
  cases c with
  | nil => rfl
  | cons x c => exact absurd ((key_same h1 x).1 List.mem_cons_self) (by simp)
end Go.Proofs.KP
end
