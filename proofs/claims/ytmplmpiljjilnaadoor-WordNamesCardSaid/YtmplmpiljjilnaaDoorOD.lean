/- Contract of op.Of. -/
import Derived.Test.YtmplmpiljjilnaaDoorOB
import Derived.LoopTactic
import Derived.Laws.Strings
import Derived.Laws.Strings2
import Derived.Laws.Strings3
namespace Go.Proofs.YtmplmpiljjilnaaDoor
open Go.RowKit
namespace L
set_option maxRecDepth 100000

/-- All names, a blank behind each. -/
def SL : List UInt8 := NL.flatMap fun l => l ++ [32]
def kAt (p : Nat) : Nat := (SL.take p).count 32
def sAt (p : Nat) : Nat := ((List.range (kAt p)).map fun i => (NL.getD i []).length + 1).sum
theorem sl_len : SL.length = 75 := by decide +kernel
theorem sl_ascii (p : Nat) (h : p < 75) : (SL.getD p 0).toNat < 128 := by
  have : ∀ p : Fin 75, (SL.getD p.val 0).toNat < 128 := by decide +kernel
  exact this ⟨p, h⟩
theorem sl_word (p : Nat) (h : p < 75) (hc : SL.getD p 0 = 32) : kAt p < 20 ∧ (SL.drop (sAt p)).take (p - sAt p) = NL.getD (kAt p) [] ∧ kAt (p + 1) = kAt p + 1 ∧ sAt (p + 1) = p + 1 ∧ sAt p ≤ p := by
  have : ∀ p : Fin 75, SL.getD p.val 0 = 32 → kAt p.val < 20 ∧ (SL.drop (sAt p.val)).take (p.val - sAt p.val) = NL.getD (kAt p.val) [] ∧ kAt (p.val + 1) = kAt p.val + 1 ∧ sAt (p.val + 1) = p.val + 1 ∧ sAt p.val ≤ p.val := by decide +kernel
  exact this ⟨p, h⟩ hc
theorem sl_letter (p : Nat) (h : p < 75) (hc : SL.getD p 0 ≠ 32) : kAt (p + 1) = kAt p ∧ sAt (p + 1) = sAt p := by
  have : ∀ p : Fin 75, SL.getD p.val 0 ≠ 32 → kAt (p.val + 1) = kAt p.val ∧ sAt (p.val + 1) = sAt p.val := by decide +kernel
  exact this ⟨p, h⟩ hc
theorem kAt_end : kAt 75 = 20 := by decide +kernel
def SB : ByteArray := ⟨SL.toArray⟩
theorem sb_size : SB.size = 75 := by show SL.toArray.size = 75; simp [sl_len]
theorem sb_get (p : Nat) (h : p < SB.size) : SB[p]'h = SL.getD p 0 := by
  have : p < SL.length := by rw [sb_size] at h; rw [sl_len]; exact h
  have e : SB[p]'h = SL.toArray[p]'(by simpa using this) := rfl
  rw [e, List.getElem_toArray, List.getD_eq_getElem?_getD, List.getElem?_eq_getElem this]; rfl
theorem sb_const : ({ data := (List.append ([110, 111, 116, 32, 110, 101, 103, 32, 97, 100, 100, 32, 115, 117, 98, 32, 109, 117, 108, 32, 100, 105, 118, 32, 114, 101, 109, 32, 97, 110, 100, 32, 111, 114, 32, 120, 111] : List UInt8) ([114, 32, 115, 104, 108, 32, 115, 104, 114, 32, 115, 97, 114, 32, 101, 113, 32, 110, 101, 32, 108, 116, 32, 108, 101, 32, 115, 108, 116, 32, 115, 108, 101, 32, 105, 116, 101, 32] : List UInt8)).toArray } : ByteArray) = SB := by kernel_rfl

end L
end Go.Proofs.YtmplmpiljjilnaaDoor
