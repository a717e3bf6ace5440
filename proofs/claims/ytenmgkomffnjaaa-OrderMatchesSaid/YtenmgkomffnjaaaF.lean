/- Contract of slices.Clone at []int. -/
import Derived.Test.YtenmgkomffnjaaaE
import Derived.Lib.LazyBuf
namespace Go.Proofs.Ytenmgkomffnjaaa
open Go.RowKit
namespace L
open K

set_option maxHeartbeats 1000000 in
theorem clone_any (v : Value) (l : List Int) (w : World) (h : Ints w v l) :
    Calls Try.prog 41 #[v] w fun e w' => ∃ v', e = .returned v' ∧ w'.ownsRow w.heap.size 3 1 v' l.length (l.map (Value.int .i64)) ∧ Below w.heap.size w w' := by
  obtain ⟨p, c, rfl, hg, hm, hc⟩ := h
  obtain ⟨i0, hi, hz0, hz1, hz2⟩ := info_parts info3
  cases p with
  | none =>
    have h0 : l.length = 0 := by
      by_cases h0 : 0 < l.length
      · obtain ⟨b, off, hp, _⟩ := hc h0; cases hp
      · omega
    obtain rfl : l = [] := List.length_eq_zero_iff.1 h0
    clear hc
    have he := fun W => Lib.run_eql_slice_nil (P := Try.prog) W 45 3 none 0 c 0 0 Try.underlying45
    go_enter Try.func41, Try.ntmps41
    go_wp2
    go_ret
    exact ⟨_, rfl, World.ownsRow_nil _ _ _ _, Below.refl _ _⟩
  | some a =>
    have he := fun W => Lib.run_eql_slice_nil (P := Try.prog) W 45 3 (some a) l.length c 0 0 Try.underlying45
    go_enter Try.func41, Try.ntmps41
    have hnews : ∀ j u, (l.map (Value.int .i64))[j]? = some u → w.cell? (a.add j) = some u := fun j u hu => by
      have hj : j < l.length := by
        have := (List.getElem?_eq_some_iff.1 hu).1
        simpa using this
      obtain ⟨b, off, hp, hcc⟩ := hc (by omega)
      cases hp
      have := hcc j hj
      rw [show (⟨b, off, none⟩ : Addr).add j = ⟨b, off + j, none⟩ from by simp [Addr.add], this, ← hu]
      simp [List.getD, hj]
    have HN := Lib.hid hnews
    clear hnews hc
    have hal : (w.alloc (.cells #[] 3)).ownsRow w.heap.size 3 1 (.slice (some ⟨w.heap.size, 0, none⟩) 0 0) 0 [] := World.ownsRow_made w #[] 0 (Nat.le_refl _) (Nat.zero_le _) rfl
    go_wp2_with (at_builtin; refine wpList_append_own _ rfl _ _ 45 rfl w.heap.size 3 i0 (.int .i64 0) 1 8 Try.underlying45 hi hz0 hz1 hz2 rfl (by decide) _ _ _ rfl hal a l.length c (l.map (Value.int .i64)) rfl ?c0 ?c1 ?c2 ?c3 ?c4 ?c5 ?_)
    case c0 => simp
    case c1 =>
      intro j u hu
      have := HN.out j u hu
      exact (((Below.refl w.heap.size w).alloc (Nat.le_refl _) (.cells #[] 3)).cell (World.block_lt_of_cell? _ _ this)).trans this
    case c2 => intro u hu; obtain ⟨x, _, rfl⟩ := List.mem_map.1 hu; rfl
    case c3 => unfold maxLen; omega
    case c4 => omega
    case c5 => simp
    intro v' w1 hown' hgrow _
    have hb' := ((Below.refl w.heap.size w).alloc (Nat.le_refl _) (.cells #[] 3)).grown hgrow (by simp) (fun k hk => by cases hk; exact Nat.le_refl _)
    clear hgrow hal
    go_wp2
    go_ret
    exact ⟨_, rfl, hown', hb'⟩
end L
end Go.Proofs.Ytenmgkomffnjaaa
