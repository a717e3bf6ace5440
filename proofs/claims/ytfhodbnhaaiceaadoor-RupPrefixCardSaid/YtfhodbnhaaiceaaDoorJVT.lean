/- A formula's box whose row of clauses grows: clauses that are read, of blocks of numbers. -/
import Derived.Test.YtfhodbnhaaiceaaDoorJVQ
import Derived.Test.YtfhodbnhaaiceaaDoorJXT
namespace Go.Proofs.YtfhodbnhaaiceaaDoor
open Go.RowKit RA
namespace L
open K
set_option maxRecDepth 100000

theorem OwnL.typed {w : World} {base : Nat} {v : Value} {L : List (List Int)} (h : OwnL w base v L) (he : ∀ j, j < L.length → (L.getD j []).length * 8 ≤ 140737488351232) : OwnT w base v L := by
  obtain ⟨us, h1, h2, h3⟩ := h
  exact ⟨us, h1, h2, fun j hj => ⟨(h3 j hj).ints (he j hj), fun k hk => owns_typed (h3 j hj) k hk⟩⟩
theorem OwnT.rows {w : World} {base : Nat} {v : Value} {L : List (List Int)} (h : OwnT w base v L) (h0 : 0 < L.length) :
    ∃ g c, v = .slice (some ⟨g, 0, none⟩) L.length c ∧ L.length ≤ c ∧ ∀ j, j < L.length → ∃ u, w.cell? ⟨g, 0 + j, none⟩ = some u ∧ Ints w u (L.getD j []) ∧ TypedI w u := by
  obtain ⟨us, h1, h2, h3⟩ := h
  rcases h2.2 with ⟨rfl, h4⟩ | ⟨g, cap, cur, rfl, hb, hg, hn, hcap, hsz, htake⟩
  · omega
  · refine ⟨g, cap, rfl, hn, fun j hj => ⟨us.getD j (.slice none 0 0), ?_, h3 j hj⟩⟩
    have := h2.cellAt j (by omega)
    rw [Nat.zero_add, this]
    simp [List.getD, show j < us.length by omega]
theorem OwnT.setBox {w : World} {base : Nat} {v : Value} {L : List (List Int)} (h : OwnT w base v L) {b : Nat} {T : TypeId} {cs : Array Value} (hx : Box w b T cs) (hT : T ≠ 23) (hT2 : T ≠ 3) (j : Nat) (u : Value) : OwnT (w.setCell ⟨b, j, none⟩ u) base v L := by
  obtain ⟨us, h1, h2, h3⟩ := h
  have hg : w.grownBy (w.setCell ⟨b, j, none⟩ u) (some b) := ⟨rfl, rfl, rfl, by simp, fun k _ hk => Deep.blk_setCell_other w ⟨b, j, none⟩ u k (fun e => hk (by rw [e]))⟩
  refine ⟨us, h1, owns_of_block h2 fun k hk => Deep.blk_setCell_other w ⟨b, j, none⟩ u k fun e => ?_, fun j hj => (h3 j hj).1.apart (h3 j hj).2 hg fun k hk => ?_⟩
  · obtain ⟨cur, hc⟩ := owns_typed h2 k hk
    have e' : k = b := e
    subst e'
    unfold Box at hx
    rw [hx] at hc
    injection hc with hc
    injection hc with _ hc
    exact hT hc
  · cases hk
    exact ⟨_, _, hx, hT2⟩

def PSt (b base : Nat) (w5 : World) (V : Int) (wr : World) (G : List (List Int)) (pg : Option Addr) (cg : Nat) : Prop :=
  Box wr b 26 #[.int .i64 V, .slice pg G.length cg] ∧ OwnT wr base (.slice pg G.length cg) G ∧ Below base w5 wr ∧ base ≤ b
theorem PSt.later {b base : Nat} {w5 wr wr' : World} {V : Int} {G : List (List Int)} {pg : Option Addr} {cg : Nat} (h : PSt b base w5 V wr G pg cg) (hb : Below wr.heap.size wr wr') : PSt b base w5 V wr' G pg cg :=
  ⟨h.1.below hb h.1.lt, h.2.1.below hb (Nat.le_refl _), h.2.2.1.trans (hb.mono (Nat.le_of_lt (Nat.lt_of_le_of_lt h.2.2.2 h.1.lt))), h.2.2.2⟩
/-- What an append to it leaves, and then the store. -/
def PAp (b base : Nat) (w5 : World) (V : Int) (G : List (List Int)) (pg : Option Addr) (cg : Nat) (c : List Int) (v' : Value) (w3 : World) : Prop :=
  Box w3 b 26 #[.int .i64 V, .slice pg G.length cg] ∧ ∃ g cap, v' = .slice (some ⟨g, 0, none⟩) (G.length + 1) cap ∧ PSt b base w5 V (w3.setCell ⟨b, 1, none⟩ v') (G ++ [c]) (some ⟨g, 0, none⟩) cap
theorem run_append_pst {b base bb : Nat} {w5 wr W : World} {V : Int} {G : List (List Int)} {pg : Option Addr} {cg : Nat} {u : Value} {c : List Int} (h : PSt b base w5 V wr G pg cg) (hu : Ints wr u c) (ht : TypedI wr u)
    (hW : Below wr.heap.size wr W) (hx : Box W bb 23 #[u]) (hG : G.length + 1 ≤ 1000000) (ty : TypeId) :
    ∃ v' w3, (Builtin.append_ #[24, 24] ty #[.slice pg G.length cg, .slice (some ⟨bb, 0, none⟩) 1 1]).run Tryd.prog W = .ok v' w3 ∧ PAp b base w5 V G pg cg c v' w3 := by
  obtain ⟨i, hi, hz, hs1, hb1⟩ := info_parts infoR
  obtain ⟨hbox, ⟨us, h1, h2, h3⟩, hb, hbb⟩ := h
  have hlt := hbox.lt
  have one : u.oneCell' = true := by obtain ⟨p, cap, rfl, _⟩ := hu; rfl
  obtain ⟨v', w3, hr, ho, hg, _⟩ := run_append_own (P := Tryd.prog) W base 24 ty 23 i (.slice none 0 0) 1 24 Tryd.underlying24 hi hz hs1 hb1 rfl (by decide) (.slice pg G.length cg) G.length us (owns_below h2 hW (Nat.le_refl _)) ⟨bb, 0, none⟩ 1 1 [u] rfl
    (fun j x hj => by
      match j, hj with
      | 0, hj => simp at hj; subst hj; exact hx.cell 0)
    (fun x hxx => by simp at hxx; subst hxx; exact one) (by unfold maxLen; omega) (by omega) (by have := hW.size; omega)
  refine ⟨v', w3, hr, ?_⟩
  have hxB : Box w3 b 26 #[.int .i64 V, .slice pg G.length cg] := (hbox.below hW hlt).grown hg fun e => by
    obtain ⟨cur, hc⟩ := owns_typed h2 b e.symm
    unfold Box at hbox
    rw [hbox] at hc
    injection hc with hc
    injection hc with _ hc
    exact absurd hc (by decide)
  have hOT := OwnT.push h1 (owns_below h2 hW (Nat.le_refl _)) (fun j hj => ⟨(h3 j hj).1.below hW, TypedI.below (h3 j hj).2 hW (Nat.le_refl _)⟩) (hu.below hW) (TypedI.below ht hW (Nat.le_refl _)) ho hg
  obtain ⟨g, cap, e, _, _⟩ := owns_form ho (by omega)
  refine ⟨hxB, g, cap, e, ?_⟩
  subst e
  have hl : (G ++ [c]).length = G.length + 1 := by simp
  unfold PSt
  rw [hl]
  exact ⟨hxB.set 1 _, OwnT.setBox hOT hxB (by decide) (by decide) 1 _, ((hb.trans (hW.mono (by omega))).grown hg (by have := hW.size; omega) fun k hk => (h2.lt k hk).1).setCell hbb _, hbb⟩
end L
end Go.Proofs.YtfhodbnhaaiceaaDoor
