/- slices.Clone of rows of the call's own. -/
import Derived.Test.YtenmgkomffnjaaaHO
import Derived.Lib.LazyBuf
namespace Go.Proofs.Ytenmgkomffnjaaa
open Go.RowKit
namespace L
open K HP
set_option maxRecDepth 100000

set_option maxHeartbeats 1000000 in
theorem clone_int {w : World} {base : Nat} {g n cap : Nat} {xs : List Value} (h : w.ownsRow base 3 1 (.slice (some ⟨g, 0, none⟩) n cap) n xs) (hn : n ≤ 1048576) (h1 : ∀ u ∈ xs, u.oneCell' = true) :
    Calls Try.prog 41 #[.slice (some ⟨g, 0, none⟩) n cap] w fun e w' => ∃ g' cap', e = .returned (.slice (some ⟨g', 0, none⟩) n cap') ∧ w'.ownsRow w.heap.size 3 1 (.slice (some ⟨g', 0, none⟩) n cap') n xs ∧ Below w.heap.size w w' := by
  obtain ⟨i0, hi, hz0, hz1, hz2⟩ := info_parts info3
  have hl : xs.length = n * 1 := h.1
  have hcells := h.cells rfl
  have he := fun W => Lib.run_eql_slice_nil (P := Try.prog) W 45 3 (some ⟨g, 0, none⟩) n cap 0 0 Try.underlying45
  have HN := Lib.hid hcells
  have HL := Lib.hid hl
  have H1 := Lib.hid h1
  clear hcells hl h1 h
  go_enter Try.func41, Try.ntmps41
  have hal : (w.alloc (.cells #[] 3)).ownsRow w.heap.size 3 1 (.slice (some ⟨w.heap.size, 0, none⟩) 0 0) 0 [] := World.ownsRow_made w #[] 0 (Nat.le_refl _) (Nat.zero_le _) rfl
  go_wp2_with (at_builtin; refine wpList_append_own _ rfl _ _ 45 rfl w.heap.size 3 i0 (.int .i64 0) 1 8 Try.underlying45 hi hz0 hz1 hz2 rfl (by decide) _ _ _ rfl hal ⟨g, 0, none⟩ n cap xs rfl HL.out ?c1 H1.out ?c3 ?c4 (by simp) ?_)
  case c1 =>
    intro j u hu
    have := HN.out j u hu
    rw [show (⟨g, 0, none⟩ : Addr).add j = ⟨g, j, none⟩ by simp [Addr.add] <;> omega] at this
    exact (((Below.refl w.heap.size w).alloc (Nat.le_refl _) (.cells #[] 3)).cell (World.block_lt_of_cell? _ _ this)).trans this
  case c3 => unfold maxLen; omega
  case c4 => omega
  intro v' w1 hown' hgrow hnil
  have hb' := ((Below.refl w.heap.size w).alloc (Nat.le_refl _) (.cells #[] 3)).grown hgrow (by simp) (fun k hk => by cases hk; exact Nat.le_refl _)
  have hv : ∃ g' cap', v' = .slice (some ⟨g', 0, none⟩) n cap' := by
    rcases hown'.2 with ⟨h1, _⟩ | ⟨g', cap', cur, h1, _⟩
    · exact (hnil h1).elim
    · exact ⟨g', cap', h1⟩
  obtain ⟨g', cap', rfl⟩ := hv
  clear hgrow hal hnil
  go_wp2
  go_ret
  exact ⟨g', cap', rfl, hown', hb'⟩

set_option maxHeartbeats 1000000 in
theorem clone_var {w : World} {base : Nat} {g n cap : Nat} {xs : List Value} (h : w.ownsRow base 57 2 (.slice (some ⟨g, 0, none⟩) n cap) n xs) (hn : n ≤ 1048576) (h1 : ∀ u ∈ xs, u.oneCell' = true) :
    Calls Try.prog 40 #[.slice (some ⟨g, 0, none⟩) n cap] w fun e w' => ∃ g' cap', e = .returned (.slice (some ⟨g', 0, none⟩) n cap') ∧ w'.ownsRow w.heap.size 57 2 (.slice (some ⟨g', 0, none⟩) n cap') n xs ∧ Below w.heap.size w w' := by
  obtain ⟨i0, hi, hz0, hz1, hz2⟩ := info_parts info57
  have hl : xs.length = n * 2 := h.1
  have hcells := h.cells rfl
  have he := fun W => Lib.run_eql_slice_nil (P := Try.prog) W 55 57 (some ⟨g, 0, none⟩) n cap 0 0 Try.underlying55
  have HN := Lib.hid hcells
  have HL := Lib.hid hl
  have H1 := Lib.hid h1
  clear hcells hl h1 h
  go_enter Try.func40, Try.ntmps40
  have hal : (w.alloc (.cells #[] 57)).ownsRow w.heap.size 57 2 (.slice (some ⟨w.heap.size, 0, none⟩) 0 0) 0 [] := World.ownsRow_made w #[] 0 (Nat.le_refl _) (Nat.zero_le _) rfl
  go_wp2_with (at_builtin; refine wpList_append_own _ rfl _ _ 55 rfl w.heap.size 57 i0 (.agg #[.int .i64 0, .int .i64 0]) 2 16 Try.underlying55 hi hz0 hz1 hz2 rfl (by decide) _ _ _ rfl hal ⟨g, 0, none⟩ n cap xs rfl HL.out ?c1 H1.out ?c3 ?c4 (by simp) ?_)
  case c1 =>
    intro j u hu
    have := HN.out j u hu
    rw [show (⟨g, 0, none⟩ : Addr).add j = ⟨g, j, none⟩ by simp [Addr.add] <;> omega] at this
    exact (((Below.refl w.heap.size w).alloc (Nat.le_refl _) (.cells #[] 57)).cell (World.block_lt_of_cell? _ _ this)).trans this
  case c3 => unfold maxLen; omega
  case c4 => omega
  intro v' w1 hown' hgrow hnil
  have hb' := ((Below.refl w.heap.size w).alloc (Nat.le_refl _) (.cells #[] 57)).grown hgrow (by simp) (fun k hk => by cases hk; exact Nat.le_refl _)
  have hv : ∃ g' cap', v' = .slice (some ⟨g', 0, none⟩) n cap' := by
    rcases hown'.2 with ⟨h1, _⟩ | ⟨g', cap', cur, h1, _⟩
    · exact (hnil h1).elim
    · exact ⟨g', cap', h1⟩
  obtain ⟨g', cap', rfl⟩ := hv
  clear hgrow hal hnil
  go_wp2
  go_ret
  exact ⟨g', cap', rfl, hown', hb'⟩

end L
end Go.Proofs.Ytenmgkomffnjaaa
