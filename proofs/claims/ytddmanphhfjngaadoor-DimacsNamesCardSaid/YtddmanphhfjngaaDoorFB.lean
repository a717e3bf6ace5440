/- strconv.AppendInt at base 10, onto a row at whose end a conversion's mark may stand. -/
import Derived.Test.YtddmanphhfjngaaDoorFA
import Derived.IntWalk
namespace Go.Proofs.YtddmanphhfjngaaDoor
open Go.RowKit Go.Sort Go.Lib
namespace L
open K

def AppEnd (w : World) (B : Nat) (l : List UInt8) (e : Ending) (w' : World) : Prop := ∃ v', e = .returned v' ∧ OwnM w' B v' l ∧ Below B w w'
theorem OwnM.own {w : World} {B : Nat} {v : Value} {l : List UInt8} (h : OwnM w B v l) : ∀ k, v.ownBlock = some k → B ≤ k := by
  obtain ⟨g, cap, cur, fz, rfl, hB, _⟩ := h
  intro k hk
  simp only [Value.ownBlock, Option.some.injEq] at hk
  omega
theorem AppM.below {a w w' : World} {B : Nat} {v v' : Value} {l l' : List UInt8} (h : AppM w B v l v' w') (h0 : OwnM w B v l') (ha : Below B a w) (hB : B ≤ w.heap.size) : Below B a w' := ha.grown h.2 hB h0.own
theorem dec_len (u : Nat) (h : u < 18446744073709551616) : (decDigits u).length ≤ 20 := by
  rw [decDigits_length]
  by_cases h0 : u = 0
  · subst h0; rw [nDigits_small (by omega)]; omega
  · have := numDigits_eq u (by omega) h; split at this <;> omega

set_option maxHeartbeats 1000000 in
theorem auint_small (u : Nat) (hu : u < 100) (B : Nat) (v : Value) (l : List UInt8) (w : World) (h : OwnM w B v l) (hB : B ≤ w.heap.size) (hl : l.length ≤ 140737488300000) :
    Calls Tryd.prog 41 #[v, .int .u64 u, .int .i64 10] w (AppEnd w B (l ++ decDigits u)) := by
  have hd := dec_len u (by omega)
  have hsz : (⟨(decDigits u).toArray⟩ : ByteArray).size = (decDigits u).length := by simp [ByteArray.size]
  have happ := fun ty => run_app_string w ty B v l h ⟨(decDigits u).toArray⟩ (by rw [hsz]; omega) hB
  have hdl : (⟨(decDigits u).toArray⟩ : ByteArray).data.toList = decDigits u := rfl
  rw [hdl] at happ
  obtain ⟨g, cap, rfl, _⟩ := h.cells
  have H := Lib.hid h
  have HA := Lib.hid happ
  clear h happ hdl hsz
  have hui : (u : Int) < 100 := by omega
  go_enter Tryd.func41, Tryd.ntmps41
  go_wp2_with (first
    | (go_at_call 51; refine (Tryd.internal_strconv_small u hu _).mono ?_; rintro e w' ⟨rfl, rfl⟩)
    | (at_builtin; refine wpList_append_by rfl (.tmp 13) (.tmp 16) 37 9 rfl _ _ rfl rfl _ (HA.out _) ?_; intro v' w1 hap; have HP := Lib.hid hap; clear hap))
  go_ret
  exact ⟨v', rfl, HP.out.1, HP.out.below H.out (Below.refl _ _) hB⟩

set_option maxHeartbeats 2000000 in
set_option maxRecDepth 100000 in
theorem auint_big (u : Nat) (hu : 100 ≤ u) (hu64 : u < 18446744073709551616) (B : Nat) (v : Value) (l : List UInt8) (w : World) (h : OwnM w B v l) (hB : B ≤ w.heap.size) (hl : l.length ≤ 140737488300000)
    (htab : TabIs Tryd.prog w "internal/strconv.uint64pow10" .u64 pow10Tab) :
    Calls Tryd.prog 41 #[v, .int .u64 u, .int .i64 10] w (AppEnd w B (l ++ decDigits u)) := by
  have hd := dec_len u hu64
  have hu1 : 1 ≤ u := by omega
  have hnd20 : nDigits u ≤ 20 := by rw [← decDigits_length]; exact hd
  have hal : Tryd.prog.arrayLen 86 = 24 := by kernel_rfl
  have hsl : ∀ W, (Instr.sliceAt 86 (.pointer (some ⟨w.heap.size, 0, none⟩)) none (some (.int .i64 (nDigits u : Int))) none).run Tryd.prog W = .ok (.slice (some ⟨w.heap.size, 0, none⟩) (nDigits u) 24) W := fun W => by
    rw [run_sliceAt_array_h W 86 ⟨w.heap.size, 0, none⟩ (by simp [Program.arrayLen, Program.elem, Tryd.underlying86]) .i64 (nDigits u : Int) (by omega) (by rw [hal]; omega)]
    go_simp
  have hH0 := holds_zero0 w 86 (nDigits u) (by omega)
  have hfmt := Tryd.internal_strconv_formatBase10 w.heap.size 0 24 u (Array.replicate (nDigits u) 0) (w.alloc (.cells zeros24 86)) hH0 (by rw [Array.size_replicate]; exact lt_pow_nDigits u) hu64 (by rw [Array.size_replicate]; omega)
  rw [Array.size_replicate] at hfmt
  have HH0 := Lib.hid hH0
  have HS := Lib.hid hsl
  obtain ⟨g, cap, rfl, _⟩ := h.cells
  have H := Lib.hid h
  have iu : (100 : Int) ≤ (u : Int) := by omega
  clear hH0 hal h hd
  go_enter Tryd.func41, Tryd.ntmps41
  go_wp2_with (first
    | (go_at_call 52; refine (Tryd.internal_strconv_numDigits u hu1 hu64 _ (tabIs_alloc htab _)).mono ?_; rintro e w' ⟨rfl, rfl⟩))
  refine hfmt.mono ?_
  rintro e w' ⟨rfl, k, v', dk, rfl, hF⟩
  have hcells : ∀ j x, (byteCells (decDigits u))[j]? = some x → ((putRow (fun (b : UInt8) => Value.int .u8 (b.toNat : Int)) (w.alloc (.cells zeros24 86)) w.heap.size 0 dk).drewN k).cell? ((⟨w.heap.size, 0, none⟩ : Addr).add j) = some x := by
    intro j x hj
    have hjl : j < (decDigits u).length := by
      have := (List.getElem?_eq_some_iff.1 hj).1
      rwa [byteCells_length] at this
    have e5 : (byteCells (decDigits u))[j]? = some (Value.int .u8 ((decDigits u)[j].toNat : Int)) := by simp [byteCells, hjl]
    rw [e5] at hj
    cases hj
    have hdk : dk.size = nDigits u := by rw [hF.size, ]
    rw [row_is_numeral hF j hjl, add_plain, World.cell?_drewN]
    exact cell?_putRow (fun (b : UInt8) => Value.int .u8 (b.toNat : Int)) _ w.heap.size 0 _ dk HH0.out (by rw [hdk, Array.size_replicate]) j (by rw [hdk, ← decDigits_length]; exact hjl)
  obtain ⟨os, eo⟩ := fin_at w (.cells zeros24 86) dk k 0
  have hb2 : Below w.heap.size w ((putRow (fun (b : UInt8) => Value.int .u8 (b.toNat : Int)) (w.alloc (.cells zeros24 86)) w.heap.size 0 dk).drewN k) := by rw [eo]; exact below_grow w.heap.size w (Nat.le_refl _) k os
  generalize (putRow (fun (b : UInt8) => Value.int .u8 (b.toNat : Int)) (w.alloc (.cells zeros24 86)) w.heap.size 0 dk).drewN k = W2 at hcells hb2 ⊢
  have hown2 := H.out.below hb2 (Nat.le_refl _)
  have hlen := decDigits_length u
  have happ := fun ty => run_app_slice W2 ty B (.slice (some ⟨g, 0, none⟩) l.length cap) l (decDigits u) hown2 ⟨w.heap.size, 0, none⟩ 24 hcells (by omega) (by have := hb2.size; omega)
  rw [hlen] at happ
  have HA := Lib.hid happ
  have HB2 := Lib.hid hb2
  have HO2 := Lib.hid hown2
  clear eo HH0 hfmt happ hcells hb2 hown2 hF hlen
  have hslW := HS.out W2
  go_wp2_with (at_builtin; refine wpList_append_by rfl (.tmp 24) (.tmp 26) 37 37 rfl _ _ rfl rfl _ (HA.out _) ?_; intro v' w1 hap; have HP := Lib.hid hap; clear hap)
  go_ret
  exact ⟨v', rfl, HP.out.1, HP.out.below HO2.out (HB2.out.mono hB) (Nat.le_trans hB HB2.out.size)⟩

theorem auint (u : Nat) (hu64 : u < 18446744073709551616) (B : Nat) (v : Value) (l : List UInt8) (w : World) (h : OwnM w B v l) (hB : B ≤ w.heap.size) (hl : l.length ≤ 140737488300000)
    (htab : TabIs Tryd.prog w "internal/strconv.uint64pow10" .u64 pow10Tab) :
    Calls Tryd.prog 41 #[v, .int .u64 u, .int .i64 10] w (AppEnd w B (l ++ decDigits u)) := by
  by_cases hu : u < 100
  · exact auint_small u hu B v l w h hB hl
  · exact auint_big u (by omega) hu64 B v l w h hB hl htab

set_option maxHeartbeats 1000000 in
theorem aint (i : Int) (h0 : -9223372036854775808 ≤ i) (h1 : i ≤ 9223372036854775807) (B : Nat) (v : Value) (l : List UInt8) (w : World) (h : OwnM w B v l) (hB : B ≤ w.heap.size) (hl : l.length ≤ 140737488200000)
    (htab : TabBelow Tryd.prog B w "internal/strconv.uint64pow10" .u64 pow10Tab) :
    Calls Tryd.prog 33 #[v, .int .i64 i, .int .i64 10] w (AppEnd w B (l ++ itoa i)) := by
  obtain ⟨g, cap, rfl, _⟩ := h.cells
  by_cases hneg : i < 0
  · obtain ⟨u, rfl⟩ : ∃ u : Nat, i = -(u : Int) := ⟨i.natAbs, by omega⟩
    have hu1 : 1 ≤ u := by omega
    have hwr : IntKind.u64.wrap (-IntKind.u64.wrap (-(u : Int))) = (u : Int) := by rw [IntKind.wrap_u64, IntKind.wrap_u64]; omega
    rw [itoa_neg u hu1]
    have happ := fun ty => run_app_slice (w.alloc (.cells #[.int .u8 45] 5)) ty B (.slice (some ⟨g, 0, none⟩) l.length cap) l [45] (h.alloc _) ⟨w.heap.size, 0, none⟩ 1
      (by intro j x hj; match j, hj with | 0, hj => simp [byteCells] at hj; subst hj; simp [Addr.add]) (by simp; omega) (by simp; omega)
    have hal := h.alloc (.cells #[.int .u8 45] 5)
    have HA := Lib.hid happ
    have HL := Lib.hid hal
    clear happ hal h
    go_enter Tryd.func33, Tryd.ntmps33
    go_wp2_with (at_builtin; refine wpList_append_by rfl (.tmp 12) (.tmp 13) 37 37 rfl _ _ rfl rfl _ (HA.out _) ?_; intro v' w1 hap; have HP := Lib.hid hap; clear hap; refine Hid.out ?_)
    refine Lib.hid ?_
    have hb1 : Below B w w1 := HP.out.below HL.out ((Below.refl B w).alloc hB _) (by simp; omega)
    go_wp2_with (go_at_call 41; refine (auint u (by omega) B v' (l ++ [45]) w1 HP.out.1 (by have := hb1.size; omega) (by simp; omega) (htab w1 hb1)).mono ?_; rintro e w2 ⟨v2, rfl, ho2, hb2⟩)
    go_ret
    refine ⟨v2, rfl, ?_, hb1.trans hb2⟩
    rw [List.append_assoc] at ho2
    exact ho2
  · obtain ⟨u, rfl⟩ : ∃ u : Nat, i = u := ⟨i.toNat, by omega⟩
    rw [itoa_nonneg]
    have hc := auint u (by omega) B _ l w h hB (by omega) htab.here
    clear h
    go_enter Tryd.func33, Tryd.ntmps33
    go_wp2_with (go_at_call 41; refine hc.mono ?_; rintro e w2 ⟨v2, rfl, ho2, hb2⟩)
    go_ret
    exact ⟨v2, rfl, ho2, hb2⟩

theorem aint_pub (i : Int) (h0 : -9223372036854775808 ≤ i) (h1 : i ≤ 9223372036854775807) (B : Nat) (v : Value) (l : List UInt8) (w : World) (h : OwnM w B v l) (hB : B ≤ w.heap.size) (hl : l.length ≤ 140737488200000)
    (htab : TabBelow Tryd.prog B w "internal/strconv.uint64pow10" .u64 pow10Tab) :
    Calls Tryd.prog 23 #[v, .int .i64 i, .int .i64 10] w (AppEnd w B (l ++ itoa i)) := by
  obtain ⟨g, cap, rfl, _⟩ := h.cells
  have hc := aint i h0 h1 B _ l w h hB hl htab
  clear h
  go_enter Tryd.func23, Tryd.ntmps23
  go_wp2_with (go_at_call 33; refine hc.mono ?_; rintro e w2 ⟨v2, rfl, ho2, hb2⟩)
  go_ret
  exact ⟨v2, rfl, ho2, hb2⟩
end L
end Go.Proofs.YtddmanphhfjngaaDoor
