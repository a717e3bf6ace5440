/- Several texts, joined. -/
import Derived.Test.YtlkhabdpancjjaaDoorQ10
import Derived.IntWalk
import Derived.Test.YtlkhabdpancjjaaDoorQ07
import Derived.Test.YtlkhabdpancjjaaDoorQ04

/- strconv.AppendInt at base 10, onto a row at whose end a conversion's mark may stand. -/
section
namespace Go.Proofs.YtlkhabdpancjjaaDoor
open Go.RowKit Go.Sort Go.Lib
namespace L
open K

def AppEnd (w : World) (B : Nat) (l : List UInt8) (e : Ending) (w' : World) : Prop := ∃ v', e = .returned v' ∧ OwnM w' B v' l ∧ Below B w w'
theorem OwnM.own {w : World} {B : Nat} {v : Value} {l : List UInt8} (h : OwnM w B v l) : ∀ k, v.ownBlock = some k → B ≤ k := by
  obtain ⟨g, cap, cur, fz, rfl, hB, _⟩ := h
  intro k hk
  simp only [Value.ownBlock, Option.some.injEq] at hk
  omega
theorem AppM.below {a w w' : World} {B : Nat} {v v' : Value} {l l' : List UInt8} (h : AppM w B v l v' w') (h0 : OwnM w B v l') (ha : Below B a w) (hB : B ≤ w.heap.size) : Below B a w' := ha.grown h.2 hB h0.own
theorem dec_len (u : Nat) (h : u < 18446744073709551616) : (decDigits u).length ≤ 20 := by
  rw [decDigits_length]
  by_cases h0 : u = 0
  · subst h0; rw [nDigits_small (by omega)]; omega
  · have := numDigits_eq u (by omega) h; split at this <;> omega

set_option maxHeartbeats 1000000 in
theorem auint_small (u : Nat) (hu : u < 100) (B : Nat) (v : Value) (l : List UInt8) (w : World) (h : OwnM w B v l) (hB : B ≤ w.heap.size) (hl : l.length ≤ 140737488300000) :
    Calls Tryd.prog 41 #[v, .int .u64 u, .int .i64 10] w (AppEnd w B (l ++ decDigits u)) := by
  have hd := dec_len u (by omega)
  have hsz : (⟨(decDigits u).toArray⟩ : ByteArray).size = (decDigits u).length := by simp [ByteArray.size]
  have happ := fun ty => run_app_string w ty B v l h ⟨(decDigits u).toArray⟩ (by rw [hsz]; omega) hB
  have hdl : (⟨(decDigits u).toArray⟩ : ByteArray).data.toList = decDigits u := rfl
  rw [hdl] at happ
  obtain ⟨g, cap, rfl, _⟩ := h.cells
  have H := Lib.hid h
  have HA := Lib.hid happ
  clear h happ hdl hsz
  have hui : (u : Int) < 100 := by omega
  go_enter Tryd.func41, Tryd.ntmps41
  go_wp2_with (first
    | (go_at_call 51; refine (Tryd.internal_strconv_small u hu _).mono ?_; rintro e w' ⟨rfl, rfl⟩)
    | (at_builtin; refine wpList_append_by rfl (.tmp 13) (.tmp 16) 37 9 rfl _ _ rfl rfl _ (HA.out _) ?_; intro v' w1 hap; have HP := Lib.hid hap; clear hap))
  go_ret
  exact ⟨v', rfl, HP.out.1, HP.out.below H.out (Below.refl _ _) hB⟩

set_option maxHeartbeats 2000000 in
set_option maxRecDepth 100000 in
theorem auint_big (u : Nat) (hu : 100 ≤ u) (hu64 : u < 18446744073709551616) (B : Nat) (v : Value) (l : List UInt8) (w : World) (h : OwnM w B v l) (hB : B ≤ w.heap.size) (hl : l.length ≤ 140737488300000)
    (htab : TabIs Tryd.prog w "internal/strconv.uint64pow10" .u64 pow10Tab) :
    Calls Tryd.prog 41 #[v, .int .u64 u, .int .i64 10] w (AppEnd w B (l ++ decDigits u)) := by
  have hd := dec_len u hu64
  have hu1 : 1 ≤ u := by omega
  have hnd20 : nDigits u ≤ 20 := by rw [← decDigits_length]; exact hd
  have hal : Tryd.prog.arrayLen 86 = 24 := by kernel_rfl
  have hsl : ∀ W, (Instr.sliceAt 86 (.pointer (some ⟨w.heap.size, 0, none⟩)) none (some (.int .i64 (nDigits u : Int))) none).run Tryd.prog W = .ok (.slice (some ⟨w.heap.size, 0, none⟩) (nDigits u) 24) W := fun W => by
    rw [run_sliceAt_array_h W 86 ⟨w.heap.size, 0, none⟩ (by simp [Program.arrayLen, Program.elem, Tryd.underlying86]) .i64 (nDigits u : Int) (by omega) (by rw [hal]; omega)]
    go_simp
  have hH0 := holds_zero0 w 86 (nDigits u) (by omega)
  have hfmt := Tryd.internal_strconv_formatBase10 w.heap.size 0 24 u (Array.replicate (nDigits u) 0) (w.alloc (.cells zeros24 86)) hH0 (by rw [Array.size_replicate]; exact lt_pow_nDigits u) hu64 (by rw [Array.size_replicate]; omega)
  rw [Array.size_replicate] at hfmt
  have HH0 := Lib.hid hH0
  have HS := Lib.hid hsl
  obtain ⟨g, cap, rfl, _⟩ := h.cells
  have H := Lib.hid h
  have iu : (100 : Int) ≤ (u : Int) := by omega
  clear hH0 hal h hd
  go_enter Tryd.func41, Tryd.ntmps41
  go_wp2_with (first
    | (go_at_call 52; refine (Tryd.internal_strconv_numDigits u hu1 hu64 _ (tabIs_alloc htab _)).mono ?_; rintro e w' ⟨rfl, rfl⟩))
  refine hfmt.mono ?_
  rintro e w' ⟨rfl, k, v', dk, rfl, hF⟩
  have hcells : ∀ j x, (byteCells (decDigits u))[j]? = some x → ((putRow (fun (b : UInt8) => Value.int .u8 (b.toNat : Int)) (w.alloc (.cells zeros24 86)) w.heap.size 0 dk).drewN k).cell? ((⟨w.heap.size, 0, none⟩ : Addr).add j) = some x := by
    intro j x hj
    have hjl : j < (decDigits u).length := by
      have := (List.getElem?_eq_some_iff.1 hj).1
      rwa [byteCells_length] at this
    have e5 : (byteCells (decDigits u))[j]? = some (Value.int .u8 ((decDigits u)[j].toNat : Int)) := by simp [byteCells, hjl]
    rw [e5] at hj
    cases hj
    have hdk : dk.size = nDigits u := by rw [hF.size, ]
    rw [row_is_numeral hF j hjl, add_plain, World.cell?_drewN]
    exact cell?_putRow (fun (b : UInt8) => Value.int .u8 (b.toNat : Int)) _ w.heap.size 0 _ dk HH0.out (by rw [hdk, Array.size_replicate]) j (by rw [hdk, ← decDigits_length]; exact hjl)
  obtain ⟨os, eo⟩ := fin_at w (.cells zeros24 86) dk k 0
  have hb2 : Below w.heap.size w ((putRow (fun (b : UInt8) => Value.int .u8 (b.toNat : Int)) (w.alloc (.cells zeros24 86)) w.heap.size 0 dk).drewN k) := by rw [eo]; exact below_grow w.heap.size w (Nat.le_refl _) k os
  generalize (putRow (fun (b : UInt8) => Value.int .u8 (b.toNat : Int)) (w.alloc (.cells zeros24 86)) w.heap.size 0 dk).drewN k = W2 at hcells hb2 ⊢
  have hown2 := H.out.below hb2 (Nat.le_refl _)
  have hlen := decDigits_length u
  have happ := fun ty => run_app_slice W2 ty B (.slice (some ⟨g, 0, none⟩) l.length cap) l (decDigits u) hown2 ⟨w.heap.size, 0, none⟩ 24 hcells (by omega) (by have := hb2.size; omega)
  rw [hlen] at happ
  have HA := Lib.hid happ
  have HB2 := Lib.hid hb2
  have HO2 := Lib.hid hown2
  clear eo HH0 hfmt happ hcells hb2 hown2 hF hlen
  have hslW := HS.out W2
  go_wp2_with (at_builtin; refine wpList_append_by rfl (.tmp 24) (.tmp 26) 37 37 rfl _ _ rfl rfl _ (HA.out _) ?_; intro v' w1 hap; have HP := Lib.hid hap; clear hap)
  go_ret
  exact ⟨v', rfl, HP.out.1, HP.out.below HO2.out (HB2.out.mono hB) (Nat.le_trans hB HB2.out.size)⟩

theorem auint (u : Nat) (hu64 : u < 18446744073709551616) (B : Nat) (v : Value) (l : List UInt8) (w : World) (h : OwnM w B v l) (hB : B ≤ w.heap.size) (hl : l.length ≤ 140737488300000)
    (htab : TabIs Tryd.prog w "internal/strconv.uint64pow10" .u64 pow10Tab) :
    Calls Tryd.prog 41 #[v, .int .u64 u, .int .i64 10] w (AppEnd w B (l ++ decDigits u)) := by
  by_cases hu : u < 100
  · exact auint_small u hu B v l w h hB hl
  · exact auint_big u (by omega) hu64 B v l w h hB hl htab

set_option maxHeartbeats 1000000 in
theorem aint (i : Int) (h0 : -9223372036854775808 ≤ i) (h1 : i ≤ 9223372036854775807) (B : Nat) (v : Value) (l : List UInt8) (w : World) (h : OwnM w B v l) (hB : B ≤ w.heap.size) (hl : l.length ≤ 140737488200000)
    (htab : TabBelow Tryd.prog B w "internal/strconv.uint64pow10" .u64 pow10Tab) :
    Calls Tryd.prog 33 #[v, .int .i64 i, .int .i64 10] w (AppEnd w B (l ++ itoa i)) := by
  obtain ⟨g, cap, rfl, _⟩ := h.cells
  by_cases hneg : i < 0
  · obtain ⟨u, rfl⟩ : ∃ u : Nat, i = -(u : Int) := ⟨i.natAbs, by omega⟩
    have hu1 : 1 ≤ u := by omega
    have hwr : IntKind.u64.wrap (-IntKind.u64.wrap (-(u : Int))) = (u : Int) := by rw [IntKind.wrap_u64, IntKind.wrap_u64]; omega
    rw [itoa_neg u hu1]
    have happ := fun ty => run_app_slice (w.alloc (.cells #[.int .u8 45] 5)) ty B (.slice (some ⟨g, 0, none⟩) l.length cap) l [45] (h.alloc _) ⟨w.heap.size, 0, none⟩ 1
      (by intro j x hj; match j, hj with | 0, hj => simp [byteCells] at hj; subst hj; simp [Addr.add]) (by simp; omega) (by simp; omega)
    have hal := h.alloc (.cells #[.int .u8 45] 5)
    have HA := Lib.hid happ
    have HL := Lib.hid hal
    clear happ hal h
    go_enter Tryd.func33, Tryd.ntmps33
    go_wp2_with (at_builtin; refine wpList_append_by rfl (.tmp 12) (.tmp 13) 37 37 rfl _ _ rfl rfl _ (HA.out _) ?_; intro v' w1 hap; have HP := Lib.hid hap; clear hap; refine Hid.out ?_)
    refine Lib.hid ?_
    have hb1 : Below B w w1 := HP.out.below HL.out ((Below.refl B w).alloc hB _) (by simp; omega)
    go_wp2_with (go_at_call 41; refine (auint u (by omega) B v' (l ++ [45]) w1 HP.out.1 (by have := hb1.size; omega) (by simp; omega) (htab w1 hb1)).mono ?_; rintro e w2 ⟨v2, rfl, ho2, hb2⟩)
    go_ret
    refine ⟨v2, rfl, ?_, hb1.trans hb2⟩
    rw [List.append_assoc] at ho2
    exact ho2
  · obtain ⟨u, rfl⟩ : ∃ u : Nat, i = u := ⟨i.toNat, by omega⟩
    rw [itoa_nonneg]
    have hc := auint u (by omega) B _ l w h hB (by omega) htab.here
    clear h
    go_enter Tryd.func33, Tryd.ntmps33
    go_wp2_with (go_at_call 41; refine hc.mono ?_; rintro e w2 ⟨v2, rfl, ho2, hb2⟩)
    go_ret
    exact ⟨v2, rfl, ho2, hb2⟩

theorem aint_pub (i : Int) (h0 : -9223372036854775808 ≤ i) (h1 : i ≤ 9223372036854775807) (B : Nat) (v : Value) (l : List UInt8) (w : World) (h : OwnM w B v l) (hB : B ≤ w.heap.size) (hl : l.length ≤ 140737488200000)
    (htab : TabBelow Tryd.prog B w "internal/strconv.uint64pow10" .u64 pow10Tab) :
    Calls Tryd.prog 23 #[v, .int .i64 i, .int .i64 10] w (AppEnd w B (l ++ itoa i)) := by
  obtain ⟨g, cap, rfl, _⟩ := h.cells
  have hc := aint i h0 h1 B _ l w h hB hl htab
  clear h
  go_enter Tryd.func23, Tryd.ntmps23
  go_wp2_with (go_at_call 33; refine hc.mono ?_; rintro e w2 ⟨v2, rfl, ho2, hb2⟩)
  go_ret
  exact ⟨v2, rfl, ho2, hb2⟩
end L
end Go.Proofs.YtlkhabdpancjjaaDoor
end

/- Plain: the text of a formula. No program. -/
section
namespace Go.Proofs.PA
open Go.Lib

def headT (n : Int) (k : Nat) : List UInt8 := [112, 32, 99, 110, 102, 32] ++ itoa n ++ [32] ++ itoa k ++ [10]
def litT (x : Int) : List UInt8 := itoa x ++ [32]
def clauseT (c : List Int) : List UInt8 := c.flatMap litT ++ [48, 10]
def textT (n : Int) (L : List (List Int)) : List UInt8 := headT n L.length ++ L.flatMap clauseT
theorem flat_snoc {α : Type} (L : List α) (d : α) (k : Nat) (h : k < L.length) (f : α → List UInt8) : (L.take (k + 1)).flatMap f = (L.take k).flatMap f ++ f (L.getD k d) := by
  rw [List.take_succ_eq_append_getElem h, List.flatMap_append, List.getD_eq_getElem?_getD, List.getElem?_eq_getElem h]
  simp
theorem flat_len (L : List (List Int)) (k : Nat) : ((L.take k).flatMap clauseT).length ≤ (L.flatMap clauseT).length := by
  conv => rhs; rw [← List.take_append_drop k L, List.flatMap_append, List.length_append]
  omega
theorem lits_len (c : List Int) (k : Nat) (hk : k ≤ c.length) (h : ∀ x ∈ c, (itoa x).length ≤ 21) : ((c.take k).flatMap litT).length ≤ 22 * k := by
  induction k with
  | zero => simp
  | succ k ih =>
    rw [flat_snoc c 0 k (by omega), List.length_append]
    have := h (c.getD k 0) (by rw [List.getD_eq_getElem?_getD, List.getElem?_eq_getElem (by omega)]; exact List.getElem_mem _)
    have h1 := ih (by omega)
    have h2 : (litT (c.getD k 0)).length = (itoa (c.getD k 0)).length + 1 := by unfold litT; rw [List.length_append]; rfl
    omega
end Go.Proofs.PA
end

/- Contracts of lit.Check and lit.Holds. -/
section
namespace Go.Proofs.YtlkhabdpancjjaaDoor
open Go.RowKit
namespace L
open K

theorem I64.av {x : Int} (_h : I64 x) : 0 ≤ L.av x := by unfold L.av; split <;> omega
theorem mem_getD {l : List Int} {k : Nat} (h : k < l.length) : l.getD k 0 ∈ l := by
  rw [List.getD, List.getElem?_eq_getElem h]; exact List.getElem_mem h

/-- What Check returns. -/
def checkE (n : Int) (c : List Int) : Int :=
  if n < 0 ∨ 1048576 < n then 3 else if 4096 < c.length then 5 else if c.any (fun x => decide (x = 0) || decide (n < av x)) then 3 else 0

theorem any_upto {l : List Int} {p : Int → Bool} {k : Nat} (h : ∀ j, j < k → p (l.getD j 0) = false) (hk : l.length ≤ k) : l.any p = false := by
  rw [List.any_eq_false]
  intro x hx
  obtain ⟨j, hj, rfl⟩ := List.mem_iff_getElem.1 hx
  have := h j (by omega)
  simpa [List.getD, hj] using this
theorem any_at {l : List Int} {p : Int → Bool} {k : Nat} (hk : k < l.length) (h : p (l.getD k 0) = true) : l.any p = true :=
  List.any_eq_true.2 ⟨_, mem_getD hk, h⟩

set_option maxHeartbeats 1000000 in
theorem check_any (n : Int) (v : Value) (l : List Int) (w : World) (hn : I64 n) (hl : ∀ x ∈ l, I64 x) (h : Ints w v l) :
    Calls Tryd.prog 31 #[.int .i64 n, v] w fun e w' => e = .returned (.int .i64 (checkE n l)) ∧ w = w' := by
  obtain ⟨p, c, rfl, hg, hm, hc⟩ := h
  unfold I64 at hn
  by_cases h1 : n < 0
  · have e : checkE n l = 3 := by simp [checkE, h1]
    rw [e]; clear e
    go_enter Tryd.func31, Tryd.ntmps31
    go_wp2
    go_ret
    exact ⟨rfl, rfl⟩
  by_cases h2 : 1048576 < n
  · have e : checkE n l = 3 := by simp [checkE, h2]
    rw [e]; clear e
    go_enter Tryd.func31, Tryd.ntmps31
    go_wp2
    go_ret
    exact ⟨rfl, rfl⟩
  by_cases h3 : 4096 < l.length
  · have e : checkE n l = 5 := by simp [checkE, h1, h2, h3]
    rw [e]; clear e
    go_enter Tryd.func31, Tryd.ntmps31
    go_wp2
    go_ret
    exact ⟨rfl, rfl⟩
  have ec : checkE n l = if l.any (fun x => decide (x = 0) || decide (n < av x)) then 3 else 0 := by simp [checkE, h1, h2, h3]
  have hwn : IntKind.u64.wrap n = n := by simp only [IntKind.wrap_u64]; omega
  have HW := Lib.hid hwn
  clear hwn
  go_enter Tryd.func31, Tryd.ntmps31
  go_wp2
  go_loop [18] (fun i => ∃ k : Nat, k ≤ l.length ∧ i = .int .i64 k ∧ (∀ j, j < k → (decide (l.getD j 0 = 0) || decide (n < av (l.getD j 0))) = false)) (fun i => l.length - (intOf i).toNat)
  case atStart => exact ⟨0, Nat.zero_le _, rfl, fun j hj => absurd hj (Nat.not_lt_zero _)⟩
  case round =>
    obtain ⟨k, hk, rfl, hno⟩ := hrel
    have HE := Lib.hid hno
    have HC := Lib.hid ec
    clear hno ec
    by_cases hlt : k < l.length
    · obtain ⟨b1, o1, rfl, e1⟩ := hc (by omega)
      have d1 := e1 k hlt
      have hx64 := hl _ (mem_getD hlt)
      have HA := Lib.hid (fun h => any_at (p := fun x => decide (x = 0) || decide (n < av x)) hlt h)
      clear hc e1 hl
      generalize hx1 : l.getD k 0 = x at d1 hx64 HA
      have HX1 := Lib.hid hx1
      clear hx1
      by_cases hx0 : x = 0
      · have hb0 : (x == 0) = true := by simp [hx0]
        have HX0 := Lib.hid hx0
        clear hx0
        go_wp2
        go_ret
        refine ⟨ret_int ?_, rfl⟩
        rw [HC.out, if_pos (HA.out (by simp [HX0.out]))]
      · have hb0 : (x == 0) = false := by simp [hx0]
        have hav := hx64.av
        by_cases hx2 : n < av x
        · go_wp2_with (go_at_call 39; refine (variable_any _ (by assumption) _).mono ?_; rintro e w' ⟨rfl, rfl⟩)
          go_ret
          refine ⟨ret_int ?_, rfl⟩
          rw [HC.out, if_pos (HA.out (by simp [hx2]))]
        · go_wp2_with (go_at_call 39; refine (variable_any _ (by assumption) _).mono ?_; rintro e w' ⟨rfl, rfl⟩)
          go_round
          case rel =>
            refine ⟨k + 1, by omega, by go_num, fun j hj => ?_⟩
            by_cases hjk : j = k
            · subst hjk; rw [HX1.out]; simp [hx0, hx2]
            · exact HE.out j (by omega)
          case measure => simp [intOf]; omega
    · go_wp2
      go_ret
      refine ⟨ret_int ?_, rfl⟩
      rw [HC.out, any_upto (p := fun x => decide (x = 0) || decide (n < av x)) HE.out (by omega)]
      rfl
end L
end Go.Proofs.YtlkhabdpancjjaaDoor
end

/- Contract of lit.Holds. -/
section
namespace Go.Proofs.YtlkhabdpancjjaaDoor
open Go.RowKit
namespace L
open K

/-- Whether a literal holds in a model. -/
def litB (m : List Bool) (x : Int) : Bool := decide (0 < av x) && (decide (av x ≤ m.length) && (m.getD (av x - 1).toNat false == decide (0 < x)))
def holdsB (m : List Bool) (c : List Int) : Bool := c.any (litB m)

end L
end Go.Proofs.YtlkhabdpancjjaaDoor
end

/- Contracts of the reference's size, Less and Check, and of has. -/
section
namespace Go.Proofs.YtlkhabdpancjjaaDoor
open Go.RowKit
namespace L
open K

set_option maxHeartbeats 400000 in
theorem size_any (x : Int) (h : I64 x) (w : World) :
    Calls Tryd.prog 42 #[.int .i64 x] w fun e w' => e = .returned (.int .u64 (av x)) ∧ w = w' := by
  by_cases h0 : x < 0
  · have e1 := Lib.hid (wrap_neg x h h0)
    have e2 : av x = -x := by simp [av, h0]
    rw [e2]; clear e2
    go_enter Tryd.func42, Tryd.ntmps42
    go_wp2
    go_ret
    exact ⟨ret_int e1.out, rfl⟩
  · have e1 := Lib.hid (wrap_pos x h (by omega))
    have e2 : av x = x := by simp [av, h0]
    rw [e2]; clear e2
    go_enter Tryd.func42, Tryd.ntmps42
    go_wp2
    go_ret
    exact ⟨ret_int e1.out, rfl⟩

set_option maxHeartbeats 1000000 in
theorem rcheck_any (n : Int) (v : Value) (l : List Int) (w : World) (hn : I64 n) (hl : ∀ x ∈ l, I64 x) (h : Ints w v l) :
    Calls Tryd.prog 34 #[.int .i64 n, v] w fun e w' => e = .returned (.int .i64 (checkE n l)) ∧ w = w' := by
  obtain ⟨p, c, rfl, hg, hm, hc⟩ := h
  unfold I64 at hn
  by_cases h1 : n < 0
  · have e : checkE n l = 3 := by simp [checkE, h1]
    rw [e]; clear e
    go_enter Tryd.func34, Tryd.ntmps34
    go_wp2
    go_ret
    exact ⟨rfl, rfl⟩
  by_cases h2 : 1048576 < n
  · have e : checkE n l = 3 := by simp [checkE, h2]
    rw [e]; clear e
    go_enter Tryd.func34, Tryd.ntmps34
    go_wp2
    go_ret
    exact ⟨rfl, rfl⟩
  by_cases h3 : 4096 < l.length
  · have e : checkE n l = 5 := by simp [checkE, h1, h2, h3]
    rw [e]; clear e
    go_enter Tryd.func34, Tryd.ntmps34
    go_wp2
    go_ret
    exact ⟨rfl, rfl⟩
  have ec : checkE n l = if l.any (fun x => decide (x = 0) || decide (n < av x)) then 3 else 0 := by simp [checkE, h1, h2, h3]
  have hwn : IntKind.u64.wrap n = n := by simp only [IntKind.wrap_u64]; omega
  have HW := Lib.hid hwn
  clear hwn
  go_enter Tryd.func34, Tryd.ntmps34
  go_wp2
  go_loop [5] (fun i => ∃ k : Nat, k ≤ l.length ∧ i = .int .i64 k ∧ (∀ j, j < k → (decide (l.getD j 0 = 0) || decide (n < av (l.getD j 0))) = false)) (fun i => l.length - (intOf i).toNat)
  case atStart => exact ⟨0, Nat.zero_le _, rfl, fun j hj => absurd hj (Nat.not_lt_zero _)⟩
  case round =>
    obtain ⟨k, hk, rfl, hno⟩ := hrel
    have HE := Lib.hid hno
    have HC := Lib.hid ec
    clear hno ec
    by_cases hlt : k < l.length
    · obtain ⟨b1, o1, rfl, e1⟩ := hc (by omega)
      have d1 := e1 k hlt
      have hx64 := hl _ (mem_getD hlt)
      have HA := Lib.hid (fun h => any_at (p := fun x => decide (x = 0) || decide (n < av x)) hlt h)
      clear hc e1 hl
      generalize hx1 : l.getD k 0 = x at d1 hx64 HA
      have HX1 := Lib.hid hx1
      clear hx1
      by_cases hx0 : x = 0
      · have hb0 : (x == 0) = true := by simp [hx0]
        have HX0 := Lib.hid hx0
        clear hx0
        go_wp2
        go_ret
        refine ⟨ret_int ?_, rfl⟩
        rw [HC.out, if_pos (HA.out (by simp [HX0.out]))]
      · have hb0 : (x == 0) = false := by simp [hx0]
        have hav := hx64.av
        by_cases hx2 : n < av x
        · go_wp2_with (go_at_call 42; refine (size_any _ (by assumption) _).mono ?_; rintro e w' ⟨rfl, rfl⟩)
          go_ret
          refine ⟨ret_int ?_, rfl⟩
          rw [HC.out, if_pos (HA.out (by simp [hx2]))]
        · go_wp2_with (go_at_call 42; refine (size_any _ (by assumption) _).mono ?_; rintro e w' ⟨rfl, rfl⟩)
          go_round
          case rel =>
            refine ⟨k + 1, by omega, by go_num, fun j hj => ?_⟩
            by_cases hjk : j = k
            · subst hjk; rw [HX1.out]; simp [hx0, hx2]
            · exact HE.out j (by omega)
          case measure => simp [intOf]; omega
    · go_wp2
      go_ret
      refine ⟨ret_int ?_, rfl⟩
      rw [HC.out, any_upto (p := fun x => decide (x = 0) || decide (n < av x)) HE.out (by omega)]
      rfl

end L
end Go.Proofs.YtlkhabdpancjjaaDoor
end

/- Contract of the reference's Holds. -/
section
namespace Go.Proofs.YtlkhabdpancjjaaDoor
open Go.RowKit
namespace L
open K

end L
end Go.Proofs.YtlkhabdpancjjaaDoor
end

/- Contract of known: the clause of three literals. -/
section
namespace Go.Proofs.YtlkhabdpancjjaaDoor
open Go.RowKit
namespace L
open K

theorem ints_lit (w : World) (l : List Int) (cs : Array Value) (n b : Nat) (hb : b = w.heap.size) (h : cs = (l.map (Value.int .i64)).toArray) (hn : n = l.length) (hm : l.length * 8 ≤ 140737488351232) : Ints (w.alloc (.cells cs 3)) (.slice (some ⟨b, 0, none⟩) n n) l := by
  subst h; subst hn; subst hb
  refine ⟨_, l.length, rfl, Nat.le_refl _, hm, fun _ => ⟨_, _, rfl, fun j hj => ?_⟩⟩
  rw [World.cell?_alloc_at _ _ _ _ rfl]
  simp [List.getD, hj]
theorem bools_lit (w : World) (l : List Bool) (cs : Array Value) (n b : Nat) (T : TypeId) (hb : b = w.heap.size) (h : cs = (l.map Value.bool).toArray) (hn : n = l.length) (hm : l.length ≤ 140737488351232) : Bools (w.alloc (.cells cs T)) (.slice (some ⟨b, 0, none⟩) n n) l := by
  subst h; subst hn; subst hb
  refine ⟨_, l.length, rfl, Nat.le_refl _, hm, fun _ => ⟨_, _, rfl, fun j hj => ?_⟩⟩
  rw [World.cell?_alloc_at _ _ _ _ rfl]
  simp [List.getD, hj]

end L
end Go.Proofs.YtlkhabdpancjjaaDoor
end

/- Contract of Small. -/
section
namespace Go.Proofs.YtlkhabdpancjjaaDoor
open Go.RowKit
namespace L
open K

def smallB (L : List (List Int)) : Bool := decide (L.length ≤ 60) && L.all fun l => decide (l.length ≤ 40)

theorem small_upto {L : List (List Int)} {k : Nat} (h : ∀ j, j < k → (L.getD j []).length ≤ 40) (hk : L.length ≤ k ∨ 60 ≤ k) : smallB L = decide (L.length ≤ 60) := by
  unfold smallB
  by_cases h60 : L.length ≤ 60
  · simp only [h60, decide_true, Bool.true_and, List.all_eq_true, decide_eq_true_eq]
    intro l hl
    obtain ⟨j, hj, rfl⟩ := List.getElem_of_mem hl
    have := h j (by omega)
    simpa [List.getD, hj] using this
  · simp [h60]
theorem small_at {L : List (List Int)} {k : Nat} (hk : k < L.length) (h : ¬ (L.getD k []).length ≤ 40) : smallB L = false := by
  unfold smallB
  rw [Bool.and_eq_false_iff]; right
  rw [List.all_eq_false]
  refine ⟨L.getD k [], ?_, by simpa using h⟩
  simp [List.getD, hk]

set_option maxHeartbeats 1000000 in
theorem small_any (n : Int) (v : Value) (L : List (List Int)) (w : World) (h : ListsW .i64 w v L) :
    Calls Tryd.prog 11 #[.agg #[.int .i64 n, v]] w fun e w' => e = .returned (.bool (smallB L)) ∧ Below w.heap.size w w' := by
  obtain ⟨p, c, rfl, g1, m1, hc⟩ := h
  have hmax : c ≤ 9223372036854775807 := m1
  clear m1
  go_enter Tryd.func11, Tryd.ntmps11
  go_wp2
  go_loopw [3] (fun i wr => ∃ k : Nat, k ≤ L.length ∧ k ≤ 60 ∧ i = .int .i64 k ∧ (∀ j, j < k → (L.getD j []).length ≤ 40) ∧ Below w.heap.size w wr ∧ wr.cell? ⟨w.heap.size, 1, none⟩ = some (.slice p L.length c)) (fun i _ => 60 - (intOf i).toNat)
  case atStart => exact ⟨0, Nat.zero_le _, Nat.zero_le _, rfl, fun j hj => absurd hj (Nat.not_lt_zero _), (Below.refl _ _).alloc (Nat.le_refl _) _, by simp⟩
  case round =>
    obtain ⟨k, hk, hk60, rfl, heq, hb, hbox⟩ := hrel
    have HE := Lib.hid heq
    clear heq
    by_cases hlt : k < L.length
    · by_cases h60 : k < 60
      · obtain ⟨b, o, rfl, e1⟩ := hc (by omega)
        obtain ⟨u, hu, hiu⟩ := e1 k hlt
        have d1 := (hb.cell (p := ⟨b, o + k, none⟩) (World.block_lt_of_cell? _ _ hu)).trans hu
        clear hc e1 hu
        obtain ⟨q, cu, rfl, _, hmu, _, _⟩ := hiu
        have hlu : ((L.getD k []).length : Int) ≤ 9223372036854775807 := by have : cu ≤ 9223372036854775807 := hmu; omega
        generalize hl : L.getD k [] = l at *
        have HL := Lib.hid hl
        clear hl hmu
        by_cases h40 : (l.length : Int) ≤ 40
        · go_wp2
          go_roundw
          case rel =>
            refine ⟨k + 1, by omega, by omega, by go_num, fun j hj => ?_, hb, hbox⟩
            by_cases hjk : j = k
            · subst hjk; rw [HL.out]; omega
            · exact HE.out j (by omega)
          case measure => simp [intOf]; omega
        · go_wp2
          go_ret
          exact ⟨ret_bool (small_at hlt (by rw [HL.out]; omega)).symm, hb⟩
      · go_wp2
        go_ret
        exact ⟨ret_bool (by rw [small_upto HE.out (.inr (by omega))]; simp; try omega), hb⟩
    · go_wp2
      go_ret
      exact ⟨ret_bool (by rw [small_upto HE.out (.inl (by omega))]; simp; try omega), hb⟩
end L
end Go.Proofs.YtlkhabdpancjjaaDoor
end
