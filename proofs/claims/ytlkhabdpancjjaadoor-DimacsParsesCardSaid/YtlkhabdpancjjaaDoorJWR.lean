/- DimacsParses: the walk. -/
import Derived.Test.YtlkhabdpancjjaaDoorQ15
import Derived.Test.YtlkhabdpancjjaaDoorJPH
import Derived.Test.YtlkhabdpancjjaaDoorJRO
namespace Go.Proofs.YtlkhabdpancjjaaDoor
open Go.RowKit PA
namespace L
open K

theorem parse_bounds (l : List UInt8) (hl : l.length ≤ 65536) : (parseS l).2.1.length ≤ 1048576 ∧ ∀ c ∈ (parseS l).2.1, c.length ≤ 4096 := by
  obtain ⟨hi, _, _⟩ := start_inv.read (contentS 0 (lns l)) ((lns l).length : Nat) (fun x hx => by have := content_line 0 (lns l) x hx; omega) rfl
  have hrun : runS l = endS (readS PA.start (contentS 0 (lns l))) (lns l).length := by
    unfold runS; rw [if_neg (by omega)]
  generalize readS PA.start (contentS 0 (lns l)) = r at *
  have hcls : (runS l).cls = r.cls := by rw [hrun]; unfold endS; split <;> rfl
  unfold parseS
  split
  · show (runS l).cls.length ≤ 1048576 ∧ ∀ c ∈ (runS l).cls, c.length ≤ 4096
    rw [hcls]
    exact ⟨by have := hi.wf.l1; have := hi.wf.l0; omega, fun c hc => (hi.ok c hc).1⟩
  · exact ⟨by simp, fun c hc => by cases hc⟩

set_option maxRecDepth 100000 in
set_option maxHeartbeats 8000000 in
theorem parses_walk (S : ByteArray) (w : World) (ht : Tab w) (hsz : S.size ≤ 9223372036854775807) :
    Calls Tryd.prog 4 #[.string S] w fun e w' => e = .returned (.bool true) ∧ Below w.heap.size w w' := by
  have HT := Lib.hid ht
  clear ht
  by_cases h2 : (3000 : Int) < S.size
  · go_enter Tryd.func4, Tryd.ntmps4
    go_wp2_with (go_at_call 12; refine (known_any _ HT.out).mono ?_; rintro e w6 ⟨rfl, hb6⟩)
    go_ret
    exact ⟨rfl, hb6⟩
  have hp := parse_any S w hsz
  have hr := fun W => rparse_any S W hsz
  have hbd := parse_bounds S.data.toList (by rw [← Lib.size_eq]; omega)
  obtain ⟨n, L, ln, er, hpe⟩ : ∃ n L ln er, parseS S.data.toList = (n, L, ln, er) := ⟨_, _, _, _, rfl⟩
  rw [hpe] at hp hbd
  simp only [hpe] at hr
  simp only at hbd
  have hL := hbd.1
  have HLC : Hid (∀ j, j < L.length → (L.getD j []).length * 8 ≤ 140737488351232) := Lib.hid (fun j hj => by have := hbd.2 _ (mem_getDL hj); omega)
  have HR := Lib.hid hr
  clear hbd hpe hr
  go_enter Tryd.func4, Tryd.ntmps4
  go_wp2_with (go_at_call 15; refine hp.mono ?_; rintro e w1 ⟨v1, B1, rfl, hb1, hB1, ho1⟩; refine Hid.out ?_)
  refine Lib.hid ?_
  have hl1 : Lists w1 v1 L := ho1.lists (by omega) HLC.out
  obtain ⟨p1, c1, rfl, _⟩ := id hl1
  have hal : Below w1.heap.size w1 (w1.alloc (.cells #[.int .i64 n, .slice p1 L.length c1] 24)) := (Below.refl _ _).alloc (Nat.le_refl _) _
  have hX0 := Box.new w1 24 #[.int .i64 n, .slice p1 L.length c1]
  have HB0 := Lib.hid (hb1.trans (hal.mono hb1.size))
  have HL0 := Lib.hid (hl1.below hal)
  have x0 := hX0.cell 0
  have x1 := hX0.cell 1
  have xs := hX0.lt
  simp only [List.getElem?_toArray, List.getElem?_cons_zero, List.getElem?_cons_succ] at x0 x1
  clear hp hal hX0 hl1 hb1 hB1 ho1
  go_wp2_with (go_at_call 16; refine (HR.out _).mono ?_; rintro e w3 ⟨v3, B3, rfl, hb3, hB3, ho3⟩; refine Hid.out ?_)
  refine Lib.hid ?_
  have y0 := (hb3.cell (p := ⟨w1.heap.size, 0, none⟩) xs).trans x0
  have y1 := (hb3.cell (p := ⟨w1.heap.size, 1, none⟩) xs).trans x1
  have ys := Nat.lt_of_lt_of_le xs hb3.size
  have hl3 : Lists w3 v3 L := ho3.lists (by omega) HLC.out
  obtain ⟨p3, c3, rfl, _⟩ := id hl3
  have hX3 := Box.new w3 24 #[.int .i64 n, .slice p3 L.length c3]
  have z0 := hX3.cell 0
  have z1 := hX3.cell 1
  have zs := hX3.lt
  simp only [List.getElem?_toArray, List.getElem?_cons_zero, List.getElem?_cons_succ] at z0 z1
  have hal : Below w3.heap.size w3 (w3.alloc (.cells #[.int .i64 n, .slice p3 L.length c3] 24)) := (Below.refl _ _).alloc (Nat.le_refl _) _
  have y0' := (hal.cell (p := ⟨w1.heap.size, 0, none⟩) ys).trans y0
  have y1' := (hal.cell (p := ⟨w1.heap.size, 1, none⟩) ys).trans y1
  have HB3 := Lib.hid (HB0.out.trans (hb3.mono HB0.out.size))
  have HB4 := Lib.hid (HB3.out.trans (hal.mono HB3.out.size))
  have HLA := Lib.hid ((HL0.out.below hb3).below hal)
  have HLB := Lib.hid (hl3.below hal)
  have hee : eqF n L n L = true := by simp [eqF]
  have hq := keqf_any n n (.slice p1 L.length c1) (.slice p3 L.length c3) L L _ HLA.out HLB.out
  rw [hee] at hq
  have HQ := Lib.hid hq
  clear hal hl3 ho3 hB3 hb3 hX3 x0 x1 xs y0 y1 ys hee hq HL0
  go_wp2_with (first | (go_at_call 17; refine HQ.out.mono ?_; rintro e w5 ⟨rfl, hb5⟩; have HB5 := Lib.hid (HB4.out.trans (hb5.mono HB4.out.size))) | (go_at_call 12; refine (known_any _ (HT.out.below HB5.out)).mono ?_; rintro e w6 ⟨rfl, hb6⟩))
  go_ret
  exact ⟨rfl, HB5.out.trans (hb6.mono HB5.out.size)⟩
end L
end Go.Proofs.YtlkhabdpancjjaaDoor
