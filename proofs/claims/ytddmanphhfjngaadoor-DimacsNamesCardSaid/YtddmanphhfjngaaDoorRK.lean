/- Contract of dimacs.Parse. -/
import Derived.Test.YtddmanphhfjngaaDoorRJ
import Derived.Defers
namespace Go.Proofs.YtddmanphhfjngaaDoor
open Go.RowKit PA RA
namespace L
open K

set_option maxHeartbeats 1000000 in
theorem close_ok (R E F L : Nat) (r : RS) (pv : Option Addr) (nv cv : Nat) (vk : Value) (u : FrameMode) (w : World) (hu : u ≠ .run) (hR : Box w R 52 (rcells r (.slice pv nv cv) vk)) (hE : Box w E 27 #[.int .i64 0]) (hF : Box w F 24 #[.int .i64 0, .slice none 0 0])
    (h1 : E ≠ R) (h2 : F ≠ R) (h3 : F ≠ E) (h0 : r.first = 0) :
    CallsD Tryd.prog 25 #[.pointer (some ⟨R, 0, none⟩), .pointer (some ⟨E, 0, none⟩), .pointer (some ⟨F, 0, none⟩), .pointer (some ⟨L, 0, none⟩)] u w fun e u' w' => u' = u ∧ e = .returned (.tuple #[]) ∧
      w' = ((w.setCell ⟨E, 0, none⟩ (.int .i64 0)).setCell ⟨F, 0, none⟩ (.int .i64 r.vars)).setCell ⟨F, 1, none⟩ (.slice pv nv cv) := by
  have c2 := hR.cell 2; have c3 := hR.cell 3; have c6 := hR.cell 6
  unfold rcells at c2 c3 c6
  rw [h0] at c6
  have e0 := hE.cell 0; have f0 := hF.cell 0; have f1 := hF.cell 1
  have ez := hE.frozen 0; have fz0 := hF.frozen 0; have fz1 := hF.frozen 1
  simp only [List.getElem?_toArray, List.getElem?_cons_zero, List.getElem?_cons_succ] at c2 c3 c6 e0 f0 f1
  clear h0
  go_enter_d Tryd.func25, Tryd.ntmps25
  go_wp2
  go_end0
  exact ⟨rfl, rfl⟩
set_option maxHeartbeats 1000000 in
theorem close_err (R E F L : Nat) (r : RS) (vc vk : Value) (u : FrameMode) (w : World) (hu : u ≠ .run) (hR : Box w R 52 (rcells r vc vk)) (hE : Box w E 27 #[.int .i64 0]) (hL : Box w L 3 #[.int .i64 0])
    (h1 : E ≠ R) (h2 : L ≠ R) (h3 : L ≠ E) (h0 : r.first ≠ 0) :
    CallsD Tryd.prog 25 #[.pointer (some ⟨R, 0, none⟩), .pointer (some ⟨E, 0, none⟩), .pointer (some ⟨F, 0, none⟩), .pointer (some ⟨L, 0, none⟩)] u w fun e u' w' => u' = u ∧ e = .returned (.tuple #[]) ∧
      w' = (w.setCell ⟨E, 0, none⟩ (.int .i64 r.first)).setCell ⟨L, 0, none⟩ (.int .i64 r.line) := by
  have c0 := hR.cell 0; have c6 := hR.cell 6
  unfold rcells at c0 c6
  have e0 := hE.cell 0; have l0 := hL.cell 0
  have ez := hE.frozen 0; have lz0 := hL.frozen 0
  simp only [List.getElem?_toArray, List.getElem?_cons_zero, List.getElem?_cons_succ] at c0 c6 e0 l0
  have hz : (r.first == 0) = false := by simpa using h0
  clear h0
  go_enter_d Tryd.func25, Tryd.ntmps25
  go_wp2
  go_end0
  exact ⟨rfl, rfl⟩

/-- How Parse ends. -/
def ParseEnd (w : World) (x : Int × List (List Int) × Int × Int) (e : Ending) (w' : World) : Prop :=
  ∃ v B, e = .returned (.tuple #[.agg #[.int .i64 x.1, v], .int .i64 x.2.2.1, .int .i64 x.2.2.2]) ∧ Below w.heap.size w w' ∧ w.heap.size ≤ B ∧ OwnL w' B v x.2.1

set_option maxRecDepth 100000 in
set_option maxHeartbeats 2000000 in
theorem parse_any (s : ByteArray) (w : World) (hs : s.size ≤ 9223372036854775807) :
    Calls Tryd.prog 15 #[.string s] w (ParseEnd w (parseS s.data.toList)) := by
  have hread := fun R W hb => callsIn_wide.1 (read_any R s W hs hb)
  obtain ⟨x, hx⟩ : ∃ x, parseS s.data.toList = x := ⟨_, rfl⟩
  rw [hx]
  unfold parseS at hx
  obtain ⟨r, hr⟩ : ∃ r, runS s.data.toList = r := ⟨_, rfl⟩
  rw [hr] at hread hx
  clear hr
  have HR := Lib.hid hread
  have HX := Lib.hid hx
  clear hread hx
  go_enter_defers Tryd.func15, Tryd.ntmps15
  go_wp2_with (go_at_call 26; refine (HR.out _ _ (Box.at _ _ _ (by simp))).mono ?_; rintro e W1 ⟨⟨v, rfl⟩, hk, hwf, B, C, hB, hrd⟩)
  have hF : Box W1 w.heap.size 24 #[.int .i64 0, .slice none 0 0] := box_keep ((((Box.new _ _ _).alloc _).alloc _).alloc _) hk (by omega)
  have hL : Box W1 (w.heap.size + 1) 3 #[.int .i64 0] := box_keep (((Box.at _ _ _ (by simp)).alloc _).alloc _) hk (by omega)
  have hE : Box W1 (w.heap.size + 2) 27 #[.int .i64 0] := box_keep ((Box.at _ _ _ (by simp)).alloc _) hk (by omega)
  have hbel : Below w.heap.size w W1 := ((((Below.refl _ w).alloc (Nat.le_refl _) _).alloc (by simp) _).alloc (by simp; omega) _ |>.alloc (by simp; omega) _).trans (Keep.to_below hk (by simp; omega) (fun k hk => by omega))
  obtain ⟨h1, h2, h3, vc, vk, us, hbR, hus, hoc, hin, hok⟩ := hrd
  simp only [World.size_alloc] at hB
  by_cases h0 : r.first = 0
  · have hx := HX.out
    rw [if_pos h0] at hx
    subst hx
    obtain ⟨pv, cv, rfl⟩ := owns_shape hoc
    refine leaves_cons (f := 25) (args := #[.pointer (some ⟨w.heap.size + 3, 0, none⟩), .pointer (some ⟨w.heap.size + 2, 0, none⟩), .pointer (some ⟨w.heap.size, 0, none⟩), .pointer (some ⟨w.heap.size + 1, 0, none⟩)]) (by simp) (by simp [go_sem]) ?_
    refine (close_ok _ _ _ _ r pv _ cv vk .returning W1 (by simp) hbR hE hF (by omega) (by omega) (by omega) h0).mono ?_
    rintro e u' w'' ⟨rfl, rfl, rfl⟩
    obtain ⟨W2, hW2⟩ : ∃ W2, ((W1.setCell ⟨w.heap.size + 2, 0, none⟩ (.int .i64 0)).setCell ⟨w.heap.size, 0, none⟩ (.int .i64 r.vars)).setCell ⟨w.heap.size, 1, none⟩ (.slice pv r.cls.length cv) = W2 := ⟨_, rfl⟩
    have bF : Box W2 w.heap.size 24 #[.int .i64 r.vars, .slice pv r.cls.length cv] := by
      rw [← hW2]
      have := ((hF.setOther ⟨w.heap.size + 2, 0, none⟩ (by simp) (.int .i64 0)).set 0 (.int .i64 r.vars)).set 1 (.slice pv r.cls.length cv)
      simpa using this
    have bL : Box W2 (w.heap.size + 1) 3 #[.int .i64 0] := by
      rw [← hW2]
      exact ((hL.setOther ⟨w.heap.size + 2, 0, none⟩ (by simp) _).setOther ⟨w.heap.size, 0, none⟩ (by simp) _).setOther ⟨w.heap.size, 1, none⟩ (by simp) _
    have bE : Box W2 (w.heap.size + 2) 27 #[.int .i64 0] := by
      rw [← hW2]
      have := ((hE.set 0 (.int .i64 0)).setOther ⟨w.heap.size, 0, none⟩ (by simp) (.int .i64 r.vars)).setOther ⟨w.heap.size, 1, none⟩ (by simp) (.slice pv r.cls.length cv)
      simpa using this
    have hbel2 : Below w.heap.size w W2 := by
      rw [← hW2]
      exact ((hbel.setCell (p := ⟨w.heap.size + 2, 0, none⟩) (by simp) _).setCell (p := ⟨w.heap.size, 0, none⟩) (by simp) _).setCell (p := ⟨w.heap.size, 1, none⟩) (by simp) _
    have hset : ∀ {base n : Nat} {e : TypeId} {v : Value} {xs : List Value}, w.heap.size + 3 ≤ base → W1.ownsRow base e 1 v n xs → W2.ownsRow base e 1 v n xs := fun hlt hx => by
      rw [← hW2]
      exact ownsRow_setCell_below (ownsRow_setCell_below (ownsRow_setCell_below hx (a := ⟨w.heap.size + 2, 0, none⟩) (by show w.heap.size + 2 < _; omega) _) (a := ⟨w.heap.size, 0, none⟩) (by show w.heap.size < _; omega) _) (a := ⟨w.heap.size, 1, none⟩) (by show w.heap.size < _; omega) _
    have hown : OwnL W2 B (.slice pv r.cls.length cv) r.cls := ⟨us, hus, hset (by omega) hoc, fun j hj => hset (by omega) (hin j hj).1⟩
    have f0 := bF.cell 0; have f1 := bF.cell 1; have l0 := bL.cell 0; have e0 := bE.cell 0
    simp only [List.getElem?_toArray, List.getElem?_cons_zero, List.getElem?_cons_succ] at f0 f1 l0 e0
    rw [hW2]
    refine ⟨.tuple #[.agg #[.int .i64 r.vars, .slice pv r.cls.length cv], .int .i64 0, .int .i64 0], ?_, ?_⟩
    · simp [results, Tryd.results15, go_sem, f0, f1, l0, e0]
    · exact ⟨_, B, rfl, hbel2, by omega, hown⟩
  · have hx := HX.out
    rw [if_neg h0] at hx
    subst hx
    refine leaves_cons (f := 25) (args := #[.pointer (some ⟨w.heap.size + 3, 0, none⟩), .pointer (some ⟨w.heap.size + 2, 0, none⟩), .pointer (some ⟨w.heap.size, 0, none⟩), .pointer (some ⟨w.heap.size + 1, 0, none⟩)]) (by simp) (by simp [go_sem]) ?_
    refine (close_err _ _ _ _ r vc vk .returning W1 (by simp) hbR hE hL (by omega) (by omega) (by omega) h0).mono ?_
    rintro e u' w'' ⟨rfl, rfl, rfl⟩
    obtain ⟨W2, hW2⟩ : ∃ W2, (W1.setCell ⟨w.heap.size + 2, 0, none⟩ (.int .i64 r.first)).setCell ⟨w.heap.size + 1, 0, none⟩ (.int .i64 r.line) = W2 := ⟨_, rfl⟩
    have bF : Box W2 w.heap.size 24 #[.int .i64 0, .slice none 0 0] := by
      rw [← hW2]
      exact (hF.setOther ⟨w.heap.size + 2, 0, none⟩ (by simp) _).setOther ⟨w.heap.size + 1, 0, none⟩ (by simp) _
    have bL : Box W2 (w.heap.size + 1) 3 #[.int .i64 r.line] := by
      rw [← hW2]
      have := (hL.setOther ⟨w.heap.size + 2, 0, none⟩ (by simp) (.int .i64 r.first)).set 0 (.int .i64 r.line)
      simpa using this
    have bE : Box W2 (w.heap.size + 2) 27 #[.int .i64 r.first] := by
      rw [← hW2]
      have := (hE.set 0 (.int .i64 r.first)).setOther ⟨w.heap.size + 1, 0, none⟩ (by simp) (.int .i64 r.line)
      simpa using this
    have hbel2 : Below w.heap.size w W2 := by
      rw [← hW2]
      exact (hbel.setCell (p := ⟨w.heap.size + 2, 0, none⟩) (by simp) _).setCell (p := ⟨w.heap.size + 1, 0, none⟩) (by simp) _
    have f0 := bF.cell 0; have f1 := bF.cell 1; have l0 := bL.cell 0; have e0 := bE.cell 0
    simp only [List.getElem?_toArray, List.getElem?_cons_zero, List.getElem?_cons_succ] at f0 f1 l0 e0
    rw [hW2]
    refine ⟨.tuple #[.agg #[.int .i64 0, .slice none 0 0], .int .i64 r.line, .int .i64 r.first], ?_, ?_⟩
    · simp [results, Tryd.results15, go_sem, f0, f1, l0, e0]
    · exact ⟨_, B, rfl, hbel2, by omega, OwnL.nil _ _⟩
end L
end Go.Proofs.YtddmanphhfjngaaDoor
