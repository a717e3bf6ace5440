/- Contracts of First: the closure, slices.IndexFunc, cnf.First, the reference's First. -/
import Derived.Test.YtoffhaamkhfdeaaXD
import Derived.Test.YtoffhaamkhfdeaaXE
namespace Go.Proofs.Ytoffhaamkhfdeaa
open Go.RowKit
namespace L
open K

/-- The index of the first clause that does not hold. -/
def firstI (m : List Bool) (L : List (List Int)) : Int := if L.all (holdsB m) then -1 else (L.findIdx fun l => !holdsB m l : Nat)
theorem firstI_upto {m : List Bool} {L : List (List Int)} {k : Nat} (h : ∀ j, j < k → holdsB m (L.getD j []) = true) (hk : L.length ≤ k) : firstI m L = -1 := by
  unfold firstI
  rw [if_pos]
  rw [List.all_eq_true]
  intro l hl
  obtain ⟨j, hj, rfl⟩ := List.getElem_of_mem hl
  have := h j (by omega)
  simpa [List.getD, hj] using this
theorem firstI_at {m : List Bool} {L : List (List Int)} {k : Nat} (h : ∀ j, j < k → holdsB m (L.getD j []) = true) (hk : k < L.length) (hf : holdsB m (L.getD k []) = false) : firstI m L = k := by
  unfold firstI
  have hf' : holdsB m L[k] = false := by simpa [List.getD, hk] using hf
  rw [if_neg]
  · congr 1
    rw [List.findIdx_eq hk]
    refine ⟨by simp [hf'], fun j hj => ?_⟩
    have hj' : j < L.length := by omega
    have := h j hj
    simpa [List.getD, hj'] using this
  · rw [List.all_eq_true]
    intro h2
    have := h2 _ (List.getElem_mem hk)
    rw [hf'] at this
    cases this
/-- What First returns. -/
def firstF (n : Int) (L : List (List Int)) (m : List Bool) : Int × Int :=
  if checkF n L ≠ 0 then (0, checkF n L) else if (m.length : Int) ≠ n then (0, 2) else (firstI m L, 0)

set_option maxHeartbeats 1000000 in
theorem fclosure_any (bx : Nat) (vm v : Value) (m : List Bool) (l : List Int) (w : World) (hl : ∀ x ∈ l, I64 x) (hM : Bools w vm m) (h : Ints w v l) (hb : w.cell? ⟨bx, 0, none⟩ = some vm) :
    Calls Try.prog 34 #[v, .pointer (some ⟨bx, 0, none⟩)] w fun e w' => e = .returned (.bool (!holdsB m l)) ∧ w = w' := by
  have hc := holds_any vm v m l w hl hM h
  clear hM h hl
  go_enter Try.func34, Try.ntmps34
  go_wp2_with fail
  refine hc.mono ?_
  rintro e w' ⟨rfl, rfl⟩
  go_wp2
  go_ret
  exact ⟨rfl, rfl⟩

set_option maxHeartbeats 1000000 in
theorem index_any (bx : Nat) (vm v : Value) (m : List Bool) (L : List (List Int)) (w : World) (hl : ∀ l ∈ L, ∀ x ∈ l, I64 x) (hM : Bools w vm m) (h : Lists w v L) (hbx : w.cell? ⟨bx, 0, none⟩ = some vm) :
    Calls Try.prog 36 #[v, .func (.func 34) #[] #[.pointer (some ⟨bx, 0, none⟩)]] w fun e w' => e = .returned (.int .i64 (firstI m L)) ∧ w = w' := by
  obtain ⟨p, c, rfl, hg, hm, hc⟩ := h
  go_enter Try.func36, Try.ntmps36
  go_wp2
  go_loop [5, 8] (fun _ i => ∃ k : Nat, k ≤ L.length ∧ i = .int .i64 k ∧ (∀ j, j < k → holdsB m (L.getD j []) = true)) (fun _ i => L.length - (intOf i).toNat)
  case atStart => exact ⟨0, Nat.zero_le _, rfl, fun j hj => absurd hj (Nat.not_lt_zero _)⟩
  case round =>
    obtain ⟨k, hk, rfl, heq⟩ := hrel
    have HE := Lib.hid heq
    have HL := Lib.hid hl
    clear heq hl
    by_cases hlt : k < L.length
    · obtain ⟨b, o, rfl, e1⟩ := hc (by omega)
      obtain ⟨u, hu, hiu⟩ := e1 k hlt
      have hck := fclosure_any bx vm u m (L.getD k []) w (HL.out _ (mem_getDL hlt)) hM hiu hbx
      have he0 := Lib.hid (fun (hq : holdsB m (L.getD k []) = false) => firstI_at HE.out hlt hq)
      clear hc e1 hiu hM
      generalize hq : holdsB m (L.getD k []) = q at *
      have HQ := Lib.hid hq
      clear hq
      cases q with
      | true =>
        go_wp2_with fail
        refine hck.mono ?_
        rintro e w' ⟨rfl, rfl⟩
        go_wp2
        go_round
        case rel =>
          refine ⟨k + 1, by omega, by go_num, fun j hj => ?_⟩
          by_cases hjk : j = k
          · subst hjk; exact HQ.out
          · exact HE.out j (by omega)
        case measure => simp [intOf]; omega
      | false =>
        go_wp2_with fail
        refine hck.mono ?_
        rintro e w' ⟨rfl, rfl⟩
        go_wp2
        go_ret
        exact ⟨ret_int (he0.out trivial).symm, rfl⟩
    · go_wp2
      go_ret
      exact ⟨ret_int (firstI_upto HE.out (by omega)).symm, rfl⟩
end L
end Go.Proofs.Ytoffhaamkhfdeaa
