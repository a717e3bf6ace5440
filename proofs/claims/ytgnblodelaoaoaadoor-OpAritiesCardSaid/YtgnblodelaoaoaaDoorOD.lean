/- Contract of op.Of. -/
import Derived.Test.YtgnblodelaoaoaaDoorOB
import Derived.LoopTactic
import Derived.Laws.Strings
import Derived.Laws.Strings2
import Derived.Laws.Strings3
namespace Go.Proofs.YtgnblodelaoaoaaDoor
open Go.RowKit
namespace L
set_option maxRecDepth 100000

/-- All names, a blank behind each. -/
def SL : List UInt8 := NL.flatMap fun l => l ++ [32]
def kAt (p : Nat) : Nat := (SL.take p).count 32
def sAt (p : Nat) : Nat := ((List.range (kAt p)).map fun i => (NL.getD i []).length + 1).sum
theorem sl_len : SL.length = 75 := by decide +kernel
theorem sl_ascii (p : Nat) (h : p < 75) : (SL.getD p 0).toNat < 128 := by
  have : ∀ p : Fin 75, (SL.getD p.val 0).toNat < 128 := by decide +kernel
  exact this ⟨p, h⟩
theorem sl_word (p : Nat) (h : p < 75) (hc : SL.getD p 0 = 32) : kAt p < 20 ∧ (SL.drop (sAt p)).take (p - sAt p) = NL.getD (kAt p) [] ∧ kAt (p + 1) = kAt p + 1 ∧ sAt (p + 1) = p + 1 ∧ sAt p ≤ p := by
  have : ∀ p : Fin 75, SL.getD p.val 0 = 32 → kAt p.val < 20 ∧ (SL.drop (sAt p.val)).take (p.val - sAt p.val) = NL.getD (kAt p.val) [] ∧ kAt (p.val + 1) = kAt p.val + 1 ∧ sAt (p.val + 1) = p.val + 1 ∧ sAt p.val ≤ p.val := by decide +kernel
  exact this ⟨p, h⟩ hc
theorem sl_letter (p : Nat) (h : p < 75) (hc : SL.getD p 0 ≠ 32) : kAt (p + 1) = kAt p ∧ sAt (p + 1) = sAt p := by
  have : ∀ p : Fin 75, SL.getD p.val 0 ≠ 32 → kAt (p.val + 1) = kAt p.val ∧ sAt (p.val + 1) = sAt p.val := by decide +kernel
  exact this ⟨p, h⟩ hc
theorem kAt_end : kAt 75 = 20 := by decide +kernel
def SB : ByteArray := ⟨SL.toArray⟩
theorem sb_size : SB.size = 75 := by show SL.toArray.size = 75; simp [sl_len]
theorem sb_get (p : Nat) (h : p < SB.size) : SB[p]'h = SL.getD p 0 := by
  have : p < SL.length := by rw [sb_size] at h; rw [sl_len]; exact h
  have e : SB[p]'h = SL.toArray[p]'(by simpa using this) := rfl
  rw [e, List.getElem_toArray, List.getD_eq_getElem?_getD, List.getElem?_eq_getElem this]; rfl
theorem sb_const : ({ data := (List.append ([110, 111, 116, 32, 110, 101, 103, 32, 97, 100, 100, 32, 115, 117, 98, 32, 109, 117, 108, 32, 100, 105, 118, 32, 114, 101, 109, 32, 97, 110, 100, 32, 111, 114, 32, 120, 111] : List UInt8) ([114, 32, 115, 104, 108, 32, 115, 104, 114, 32, 115, 97, 114, 32, 101, 113, 32, 110, 101, 32, 108, 116, 32, 108, 101, 32, 115, 108, 116, 32, 115, 108, 101, 32, 105, 116, 101, 32] : List UInt8)).toArray } : ByteArray) = SB := by kernel_rfl

set_option maxHeartbeats 1000000 in
theorem of_any (s : List UInt8) (w : World) :
    Calls Tryd.prog 17 #[str s] w fun e w' => e = .returned (.tuple #[.int .u8 (ofV s), .int .i64 (ofE s)]) ∧ Below w.heap.size w w' := by
  unfold str
  go_enter Tryd.func17, Tryd.ntmps17
  rw [sb_const]
  have hz : SB.size = 75 := sb_size
  have hg : ∀ (p : Nat) (h : p < SB.size), SB[p]'h = SL.getD p 0 := sb_get
  have hx : ∀ a b, SB.extract a b = ⟨((SL.drop a).take (b - a)).toArray⟩ := fun a b => ByteArray.extract_mk SL a b
  generalize SB = S at *
  have HZ := Lib.hid hz
  have HG := Lib.hid hg
  have HX := Lib.hid hx
  clear hz hg hx
  obtain ⟨t, ht⟩ : ∃ t : ByteArray, t = ⟨s.toArray⟩ := ⟨_, rfl⟩
  rw [← ht]
  have HT := Lib.hid ht; clear ht
  go_wp2
  go_loopw [4, 5] (fun o st wr => ∃ p : Nat, wr = w.iter S p ∧ o = .int .u8 ((kAt p + 2 : Nat) : Int) ∧ st = .int .i64 (sAt p : Int) ∧ p ≤ 75 ∧ Hid (∀ j, j < kAt p → NL.getD j [] ≠ s)) (fun _ _ w' => 75 - w'.iterPos w.heap.size)
  case atStart => exact ⟨0, rfl, rfl, rfl, by omega, fun j hj => absurd hj (Nat.not_lt_zero j)⟩
  case round =>
    obtain ⟨p, rfl, rfl, rfl, hp, hj⟩ := hrel
    by_cases hlt : p < 75
    · have hs : p < S.size := by rw [HZ.out]; exact hlt
      have hb := HG.out p hs
      have ha : (S[p]'hs).toNat < 128 := by rw [hb]; exact sl_ascii p hlt
      have hnx : ∀ ty, (Instr.next (.pointer (some ⟨w.heap.size, 0, none⟩)) true ty).run Tryd.prog (w.iter S p) = _ := fun ty => run_next_ascii w S p ty hs ha
      by_cases hc : SL.getD p 0 = 32
      · obtain ⟨h1, h2, h3, h4, h5⟩ := sl_word p hlt hc
        have hv : (S[p]'hs).toNat = 32 := by rw [hb, hc]; rfl
        rw [hv] at hnx
        have hxx : S.extract (sAt p) p = ⟨(NL.getD (kAt p) []).toArray⟩ := by rw [HX.out, h2]
        have i1 : (0 : Int) ≤ (sAt p : Int) := by omega
        have i2 : (sAt p : Int) ≤ (p : Int) := by omega
        have i3 : (p : Int) ≤ (S.size : Int) := by omega
        have i4 : (kAt p : Int) + 2 + 1 ≤ 255 := by omega
        by_cases he : NL.getD (kAt p) [] = s
        · have ho : ofN s = kAt p := ofN_is s _ h1 he
          have e1 : ofV s = ((kAt p + 2 : Nat) : Int) := by simp [ofV, ho, h1]
          have e2 : ofE s = 0 := by simp [ofE, ho, h1]
          have E1 := Lib.hid e1
          have E2 := Lib.hid e2
          have het : ((S.extract (sAt p) p).toList == t.toList) = true := by rw [hxx, HT.out, str_same]; exact decide_eq_true he
          have HE := Lib.hid he
          have HB := Lib.hid hb
          have HC := Lib.hid hc
          have HO := Lib.hid ho
          have H2 := Lib.hid h2
          have H3 := Lib.hid h3
          have H4 := Lib.hid h4
          clear he hb hc ho h2 h3 h4 hxx hv ha e1 e2 HG HX HZ
          go_wp2
          go_ret2
          exact ⟨by rw [E1.out, E2.out]; rfl, (Below.refl _ w).alloc (Nat.le_refl _) _⟩
        · have het : ((S.extract (sAt p) p).toList == t.toList) = false := by rw [hxx, HT.out, str_same]; exact decide_eq_false he
          have hnew : Hid (∀ j, j < kAt (p + 1) → NL.getD j [] ≠ s) := by
            intro j hj2
            rw [h3] at hj2
            rcases Nat.lt_succ_iff_lt_or_eq.1 hj2 with h | rfl
            · exact hj.out j h
            · exact he
          have HE := Lib.hid he
          have HB := Lib.hid hb
          have HC := Lib.hid hc
          have H2 := Lib.hid h2
          have H3 := Lib.hid h3
          have H4 := Lib.hid h4
          clear he hb hc h2 h3 h4 hxx hv ha HG HX HZ
          go_wp2
          go_roundw
          case rel => exact ⟨p + 1, rfl, by rw [H3.out]; simp [IntKind.wrap_u8]; omega, by rw [H4.out]; rfl, by omega, hnew⟩
          case measure => simp; omega
      · obtain ⟨h3, h4⟩ := sl_letter p hlt hc
        have hv : (((S[p]'hs).toNat : Nat) : Int) ≠ 32 := by rw [hb]; intro h; exact hc (UInt8.toNat_inj.1 (by simpa using Int.ofNat.inj h))
        have hnew : Hid (∀ j, j < kAt (p + 1) → NL.getD j [] ≠ s) := by rw [h3]; exact hj
        generalize (S[p]'hs).toNat = c at hnx hv
        have HB := Lib.hid hb
        have HC := Lib.hid hc
        have H3 := Lib.hid h3
        have H4 := Lib.hid h4
        clear hb hc h3 h4 HG HX HZ ha
        go_wp2
        go_roundw
        case rel => exact ⟨p + 1, rfl, by rw [H3.out], by rw [H4.out], by omega, hnew⟩
        case measure => simp; omega
    · obtain rfl : p = 75 := by omega
      have hn : ofN s = 20 := ofN_not s fun j h => hj.out j (by rw [kAt_end]; exact h)
      have e1 : ofV s = 0 := by simp [ofV, hn]
      have e2 : ofE s = 6 := by simp [ofE, hn]
      have E1 := Lib.hid e1
      have E2 := Lib.hid e2
      have hs : ¬ 75 < S.size := by rw [HZ.out]; omega
      have hnx : ∀ ty, (Instr.next (.pointer (some ⟨w.heap.size, 0, none⟩)) true ty).run Tryd.prog (w.iter S 75) = _ := fun ty => run_next_end w S 75 ty hs
      have HN := Lib.hid hn
      clear hn e1 e2 HG HX HZ
      go_wp2
      go_ret2
      exact ⟨by rw [E1.out, E2.out]; rfl, (Below.refl _ w).alloc (Nat.le_refl _) _⟩
end L
end Go.Proofs.YtgnblodelaoaoaaDoor
