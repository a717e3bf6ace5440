/- Contract of lit.ordered. -/
import Derived.Test.YtbmpjglplmnlnaaG
import Derived.Test.YtbmpjglplmnlnaaLaid
import Derived.Lib.RowBridge
import Derived.Lib.SortBridge
namespace Go.Proofs.Ytbmpjglplmnlnaa
open Go.RowKit Go.Shelf Go.Lib Go.Sort
namespace L
open K
/-- The list in the order of Less. -/
def sortI (l : List Int) : List Int := l.mergeSort fun a b => !lessB b a

abbrev N64 : Type := {x : Int // I64 x}
instance : Inhabited N64 := ⟨⟨0, by unfold I64; omega⟩⟩
def encN (x : N64) : Value := .int .i64 x.1
def cfN (x y : N64) : Int := cmpI x.1 y.1

theorem less_iff (a b : Int) : lessB a b = true ↔ av a < av b ∨ av a = av b ∧ b < a := by simp [lessB]
theorem av_nonneg {x : Int} : 0 ≤ L.av x := by unfold L.av; split <;> omega
theorem lessB_irrefl (a : Int) : lessB a a = false := by simp [lessB]
theorem lessB_trans {a b c : Int} (h1 : lessB a b = true) (h2 : lessB b c = true) : lessB a c = true := by
  rw [less_iff] at *; omega
theorem lessB_asymm {a b : Int} (h1 : lessB a b = true) : lessB b a = false := by
  cases h : lessB b a with
  | false => rfl
  | true => have := lessB_trans h1 h; rw [lessB_irrefl] at this; cases this
theorem lessB_ntrans {a b c : Int} (h1 : lessB a b = false) (h2 : lessB b c = false) : lessB a c = false := by
  rw [Bool.eq_false_iff] at *; rw [ne_eq, less_iff] at *; omega
theorem lessB_tot {a b : Int} (h1 : lessB a b = false) (h2 : lessB b a = false) : a = b := by
  rw [Bool.eq_false_iff] at *; rw [ne_eq, less_iff] at *; unfold av at *; split at * <;> split at * <;> omega

theorem lt_cf (x y : N64) : ltOf cfN x y = lessB x.1 y.1 := by
  unfold ltOf cfN cmpI
  cases h : lessB x.1 y.1 <;> simp
  split <;> simp
theorem swo : SWO (ltOf cfN) where
  irrefl x := by rw [lt_cf]; exact lessB_irrefl _
  trans x y z h1 h2 := by rw [lt_cf] at *; exact lessB_trans h1 h2
  ntrans x y z h1 h2 := by rw [lt_cf] at *; exact lessB_ntrans h1 h2
theorem tot (x y : N64) (h1 : ltOf cfN x y = false) (h2 : ltOf cfN y x = false) : x = y := by
  rw [lt_cf] at *; exact Subtype.ext (lessB_tot h1 h2)

/-- The list, each with what it satisfies. -/
def attachN (l : List Int) (hl : ∀ x ∈ l, I64 x) : List N64 := l.attach.map fun x => ⟨x.1, hl x.1 x.2⟩
theorem attachN_val (l : List Int) (hl : ∀ x ∈ l, I64 x) : (attachN l hl).map (·.1) = l := by
  unfold attachN; rw [List.map_map]; exact List.attach_map_subtype_val l
theorem attachN_len (l : List Int) (hl : ∀ x ∈ l, I64 x) : (attachN l hl).length = l.length := by
  have := congrArg List.length (attachN_val l hl); simpa using this
theorem attachN_at (l : List Int) (hl : ∀ x ∈ l, I64 x) (j : Nat) (hj : j < l.length) : ((attachN l hl).toArray[j]!).1 = l[j] := by
  have h1 : j < (attachN l hl).toArray.size := by simpa [attachN_len] using hj
  rw [getElem!_pos _ j h1]
  simp [attachN]
theorem sorted_val (l : List Int) (hl : ∀ x ∈ l, I64 x) : ((attachN l hl).mergeSort fun x y => !(ltOf cfN) y x).map (·.1) = sortI l := by
  rw [List.map_mergeSort (s := fun a b => !lessB b a) (fun a _ b _ => by rw [lt_cf]), attachN_val]
  rfl

/-- Behind the sort the slice owns the new row; below its block nothing has turned. -/
theorem owns_sorted {α : Type} [Inhabited α] (enc : α → Value) {w : World} {B n m : Nat} {g cap : Nat} {xs : List Value} (h : w.ownsRow B 3 1 (.slice (some ⟨g, 0, none⟩) n cap) n xs) (d : Array α) (hd : d.size = n) (os : Array Obj) :
    (grow (putRow enc (Sort.ahead w m) g 0 d) os).ownsRow B 3 1 (.slice (some ⟨g, 0, none⟩) n cap) n (d.toList.map enc) ∧ Below B w (grow (putRow enc (Sort.ahead w m) g 0 d) os) := by
  rcases h.2 with ⟨h', _⟩ | ⟨g', cap', cur, h', hb, hg, hnc, hcm, hcs, htake⟩
  · simp at h'
  simp only [Value.slice.injEq, Option.some.injEq, Addr.mk.injEq, and_true, true_and] at h'
  obtain ⟨rfl, rfl⟩ := h'
  have hlt : g < w.heap.size := (Array.getElem?_eq_some_iff.1 hg).1
  have hblk : (grow (putRow enc (Sort.ahead w m) g 0 d) os).heap[g]? = some (.cells (putCells enc 0 d cur) 3 (0, 0)) := by
    rw [heap_grow_old _ _ (by simpa using hlt)]
    simp only [putRow, mapBlock, Sort.heap_ahead, Array.getElem?_modify, if_true, hg, Option.map_some, onCells]
  refine ⟨⟨by simp [hd], .inr ⟨g, cap, putCells enc 0 d cur, rfl, hb, hblk, hnc, hcm, by simpa [putCells] using hcs, ?_⟩⟩, ?_⟩
  · apply List.ext_getElem?
    intro j
    simp only [putCells, List.getElem?_take, List.getElem?_map, Array.getElem?_toList, Array.getElem?_mapIdx]
    by_cases hj : j < n
    · have hjc : j < cur.size := by omega
      have hjd : j < d.size := by omega
      rw [if_pos (by omega), Array.getElem?_eq_getElem hjc, Array.getElem?_eq_getElem hjd]
      simp [hjd, getElem!_pos d j hjd]
    · rw [if_neg (by omega), Array.getElem?_eq_none (by omega)]; rfl
  · refine ⟨rfl, rfl, rfl, by simp, fun k hk => ?_⟩
    have hkw : k < w.heap.size := by omega
    rw [heap_grow_old _ _ (by simpa using hkw)]
    simp only [putRow, mapBlock, Sort.heap_ahead, Array.getElem?_modify]
    rw [if_neg (by omega)]

theorem owns_mono {w : World} {B B' : Nat} {v : Value} {n : Nat} {xs : List Value} (h : w.ownsRow B 3 1 v n xs) (hB : B' ≤ B) : w.ownsRow B' 3 1 v n xs := by
  refine ⟨h.1, ?_⟩
  rcases h.2 with h' | ⟨g, cap, cur, h1, h2, h3⟩
  · exact .inl h'
  · exact .inr ⟨g, cap, cur, h1, by omega, h3⟩

theorem boxed_kept {α : Type} [Inhabited α] (enc : α → Value) (w : World) (g bx m : Nat) (dk : Array α) (os : Array Obj) (x : Value) (hne : bx ≠ g) (h : w.cell? ⟨bx, 0, none⟩ = some x) : (sortWorld enc w g 0 m dk os).cell? ⟨bx, 0, none⟩ = some x := by
  have hlt := World.block_lt_of_cell? _ _ h
  unfold sortWorld
  rw [cell?_grow _ _ _ (by simpa using hlt), cell?_putRow_other _ _ _ _ _ _ (Or.inl hne)]
  exact h

theorem cmpReads (g bx size : Nat) (w : World) (hne : bx ≠ g) (h : w.cell? ⟨bx, 0, none⟩ = some (.func (.func 37) #[] #[])) : CmpReads Try.prog 43 #[.pointer (some ⟨bx, 0, none⟩)] encN cfN g 0 size w :=
  fun m os dk _ x y => (closure_any bx x.1 y.1 x.2 y.2 _ (boxed_kept encN w g bx m dk os _ hne h)).mono fun _ _ ⟨he, hw⟩ => ⟨he, 0, hw.symm⟩

set_option maxHeartbeats 1000000 in
theorem ordered_any (v : Value) (l : List Int) (w : World) (hl : ∀ x ∈ l, I64 x) (h : Ints w v l) :
    Calls Try.prog 36 #[v, .func (.func 37) #[] #[]] w fun e w' => ∃ v', e = .returned v' ∧ w'.ownsRow w.heap.size 3 1 v' l.length ((sortI l).map (Value.int .i64)) ∧ Below w.heap.size w w' := by
  have hm8 : l.length * 8 ≤ 140737488351232 := by obtain ⟨_, _, _, _, h, _⟩ := h; exact h
  have hb0 : Below w.heap.size w (w.alloc (.cells #[.func (.func 37) #[] #[]] 64)) := (Below.refl _ _).alloc (Nat.le_refl _) _
  have hI := h.below hb0
  have hbx : (w.alloc (.cells #[.func (.func 37) #[] #[]] 64)).cell? ⟨w.heap.size, 0, none⟩ = some (.func (.func 37) #[] #[]) := by
    rw [World.cell?_alloc_at _ _ _ _ rfl]; rfl
  have hmf : ∀ (fn : Fn) (first cap : Array Value) (w : World), (Instr.makeFunc fn first cap).run Try.prog w = .ok (.func fn first cap) w := fun _ _ _ _ => rfl
  go_enter Try.func36, Try.ntmps36
  go_wp2_with fail
  refine (clone_any v l _ hI).mono ?_
  rintro e w1 ⟨v', rfl, hown, hb⟩
  have hbx1 : w1.cell? ⟨w.heap.size, 0, none⟩ = some (.func (.func 37) #[] #[]) := (hb.cell (p := ⟨w.heap.size, 0, none⟩) (by simp)).trans hbx
  have hsz : w.heap.size + 1 ≤ w1.heap.size := by have := hb.size; simpa using this
  have hbw : Below w.heap.size w w1 := hb0.trans (hb.mono (by simp))
  clear hI hb0 hb hbx h
  rcases hown.2 with ⟨hv, h0⟩ | ⟨g, cap, cur, hv, hbg, hg, hn, hcap, hszc, htake⟩
  · obtain rfl : l = [] := List.length_eq_zero_iff.1 h0
    subst hv
    have hS := fun W => AnyF.slices_SortFunc_none (P := Try.prog) (ρ := Try.sortL_ren) { Try.sortL with } none 0 (.func (.func 43) #[] #[.pointer (some ⟨w.heap.size, 0, none⟩)]) W
    change ∀ W, Calls Try.prog 42 _ _ _ at hS
    go_wp2_with (go_at_call 42; refine (hS _).mono ?_; rintro e w' ⟨rfl, rfl⟩)
    go_ret
    exact ⟨_, rfl, by rw [show sortI [] = [] from by simp [sortI]]; exact World.ownsRow_nil _ _ _ _, hbw⟩
  · subst hv
    have hgw : g < w1.heap.size := (Array.getElem?_eq_some_iff.1 hg).1
    have hgb : w.heap.size + 1 ≤ g := by simpa using hbg
    have hH : Holds encN w1 g 0 (attachN l hl).toArray := by
      intro j hj
      have hj' : j < l.length := by simpa [attachN_len] using hj
      have hfr := hown.frozenAt j
      have hce := hown.cellAt j (by omega)
      refine ⟨?_, by rw [Nat.zero_add]; exact hfr⟩
      rw [Nat.zero_add, hce]
      have hav := attachN_at l hl j hj'
      show (List.map (Value.int .i64) l)[j]? = some (.int .i64 ((attachN l hl).toArray[j]!).1)
      rw [hav]; simp [hj']
    have eg : ∀ args w, (callFunc 43 args).run Try.prog w = .ok (.enter 43 args) w := enters_of Try.func43 (by kernel_rfl) rfl
    have hsize : (attachN l hl).toArray.size = l.length := by simp [attachN_len]
    have hS := Any.slices_SortFunc_total Try.sortL encN (fun _ => rfl) cfN swo 43 #[.pointer (some ⟨w.heap.size, 0, none⟩)] g 0 cap (attachN l hl).toArray w1 eg (cmpReads g w.heap.size _ w1 (by omega) hbx1).lays hH hgw (by rw [hsize]; omega) tot
    rw [hsize] at hS
    change Calls Try.prog 42 _ _ _ at hS
    clear hH
    go_wp2_with (go_at_call 42; refine hS.mono ?_; rintro e w2 ⟨rfl, n, os, hw2⟩)
    go_ret
    have hfin := owns_sorted encN (m := n) hown (((attachN l hl).toArray.toList.mergeSort fun x y => !(ltOf cfN) y x).toArray) (by simp [attachN_len]) os
    have hmap : (((attachN l hl).toArray.toList.mergeSort fun x y => !(ltOf cfN) y x).toArray).toList.map encN = (sortI l).map (Value.int .i64) := by
      rw [← sorted_val l hl, List.map_map]
      rfl
    rw [hmap] at hfin
    subst hw2
    exact ⟨_, rfl, owns_mono hfin.1 (by simp), hbw.trans (hfin.2.mono (by simp))⟩
end L
end Go.Proofs.Ytbmpjglplmnlnaa
