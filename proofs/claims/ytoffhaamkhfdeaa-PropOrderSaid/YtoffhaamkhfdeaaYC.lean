/- Contract of Model. -/
import Derived.Test.YtoffhaamkhfdeaaYB
namespace Go.Proofs.Ytoffhaamkhfdeaa
open Go.RowKit
namespace L
open K

theorem info4 : (Try.prog.info? 4).map (fun i => (i.zero, i.size, i.bytes)) = some (some (.bool false), 1, 1) := by kernel_rfl

theorem owns_bools {w : World} {base : Nat} {v : Value} {l : List Bool} (h : w.ownsRow base 4 1 v l.length (l.map Value.bool)) (hm : l.length ≤ 140737488351232) : Bools w v l := by
  rcases h.2 with ⟨rfl, h0⟩ | ⟨g, cap, cur, rfl, hb, hg, hn, hcap, hsz, htake⟩
  · exact ⟨none, 0, by rw [h0], by omega, hm, fun h => by omega⟩
  · refine ⟨some ⟨g, 0, none⟩, cap, rfl, hn, hm, fun _ => ⟨g, 0, rfl, fun j hj => ?_⟩⟩
    have := h.cellAt j (by omega)
    rw [Nat.zero_add, this]
    simp [List.getD, hj]

/-- The value of a variable. -/
def modelB (b : Int) (i : Nat) : Bool := bits BinOp.and IntKind.u16 (b / 2 ^ min i 16) 1 == 1
def modelR (n : Nat) (b : Int) : List Bool := (List.range n).map (modelB b)
theorem modelR_len (n : Nat) (b : Int) : (modelR n b).length = n := by simp [modelR]
theorem modelR_of {n : Nat} {b : Int} {bs : List Bool} (hl : bs.length = n) (h : ∀ j, j < n → bs.getD j false = modelB b j) : bs = modelR n b := by
  refine List.ext_getElem (by simp [modelR, hl]) fun i h1 h2 => ?_
  have := h i (by omega)
  simp only [List.getD_eq_getElem?_getD, List.getElem?_eq_getElem h1, Option.getD_some] at this
  simpa [modelR] using this

set_option maxHeartbeats 1000000 in
theorem model_any (n : Nat) (b : Int) (w : World) (hn : n ≤ 1000) (hb0 : (Lit.int .u16 b).wf = true) :
    Calls Try.prog 23 #[.int .i64 n, .int .u16 b] w fun e w' => ∃ v', e = .returned v' ∧ w'.ownsRow w.heap.size 4 1 v' n ((modelR n b).map Value.bool) ∧ Below w.heap.size w w' := by
  have hbb : 0 ≤ b ∧ b ≤ 65535 := by simpa [Lit.wf, IntKind.min, IntKind.max, IntKind.signed, IntKind.bits] using hb0
  obtain ⟨hb1, hb2⟩ := hbb
  clear hb0
  obtain ⟨i0, hi, hz0, hz1, hz2⟩ := info_parts info4
  go_enter Try.func23, Try.ntmps23
  go_wp2_with (at_make; refine wpList_make_full _ rfl _ _ 48 rfl w.heap.size 4 i0 (.bool false) 1 Try.underlying48 hi hz0 hz1 .i64 .i64 _ _ n rfl rfl rfl rfl (by rw [hz2]; omega) (by unfold maxLen; omega) (Nat.le_refl _) ?_)
  intro w1 hown hgrow
  have hb := (Below.refl w.heap.size w).grown hgrow (Nat.le_refl _) (fun k h => by cases h)
  rw [toList_madeCells_one, ← List.map_replicate (f := Value.bool) (a := false)] at hown
  clear hgrow
  go_wp2
  go_loopw [6] (fun i wr => ∃ (k : Nat) (bs : List Bool), k ≤ n ∧ i = .int .i64 k ∧ bs.length = n ∧ (∀ j, j < k → bs.getD j false = modelB b j) ∧ wr.ownsRow w.heap.size 4 1 (.slice (some ⟨w.heap.size, 0, none⟩) n n) n (bs.map Value.bool) ∧ Below w.heap.size w wr) (fun i _ => n - (intOf i).toNat)
  case atStart => exact ⟨0, List.replicate n false, Nat.zero_le _, rfl, by simp, fun j hj => absurd hj (Nat.not_lt_zero _), by simpa using hown, hb⟩
  case round =>
    clear hown hb
    obtain ⟨k, bs, hk, rfl, hbs, hval, hown, hb⟩ := hrel
    have HV := Lib.hid hval
    clear hval
    by_cases hlt : k < n
    · have dS := hown.cellAt k (by omega)
      have fS := hown.frozenAt k
      have hkb : k < bs.length := by omega
      rw [List.getElem?_map, List.getElem?_eq_getElem hkb] at dS
      generalize bs[k] = z at dS
      have HO := Lib.hid hown
      have HBS := Lib.hid hbs
      clear hown hbs
      go_wp2
      go_roundw
      case rel =>
        refine ⟨k + 1, bs.set k (modelB b k), by omega, by go_num, by simpa using HBS.out, fun j hj => ?_, ?_, hb.setCell (Nat.le_refl _) _⟩
        · by_cases hjk : j = k
          · subst hjk; simp [List.getD, hkb]
          · have := HV.out j (by omega)
            simp only [List.getD_eq_getElem?_getD, List.getElem?_set, show ¬ k = j by omega, if_false] at this ⊢
            exact this
        · have := (HO.out.stored k (.bool (modelB b k))).1
          rwa [← List.map_set] at this
      case measure => simp [intOf]; omega
    · have hkn : k = n := by omega
      have hbs' := modelR_of hbs (by rw [← hkn]; exact HV.out)
      go_wp2
      go_ret
      exact ⟨_, rfl, by rw [← hbs']; exact hown, hb⟩
end L
end Go.Proofs.Ytoffhaamkhfdeaa
