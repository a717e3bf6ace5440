/- WordAll: the walk. -/
import Derived.Test.YtmplmpiljjilnaaDoorWA
namespace Go.Proofs.YtmplmpiljjilnaaDoor
open Go.RowKit
open L
namespace W9
set_option maxRecDepth 100000

/-- The first n of a row's words. -/
theorem Words.take {w : World} {b c : Nat} {l : List Nat} (h : Words w (.slice (some ⟨b, 0, none⟩) l.length c) l) {n : Nat} (hn : n ≤ l.length) (h0 : 0 < l.length) : Words w (.slice (some ⟨b, 0, none⟩) n c) (l.take n) := by
  obtain ⟨p, cap, hv, hl, hm, hx, hc⟩ := h
  simp only [Value.slice.injEq] at hv
  obtain ⟨rfl, _, rfl⟩ := hv
  obtain ⟨b', off, hp, hcc⟩ := hc h0
  simp only [Option.some.injEq, Addr.mk.injEq] at hp
  obtain ⟨rfl, rfl, _⟩ := hp
  have hlen : (l.take n).length = n := by simp; omega
  refine ⟨_, _, by rw [hlen], by omega, by omega, fun x hx' => hx x (List.mem_of_mem_take hx'), fun _ => ⟨b, 0, rfl, fun j hj => ?_⟩⟩
  rw [hcc j (by omega)]
  simp [List.getD, show j < n by omega]

set_option maxHeartbeats 4000000 in
theorem all9_walk (k x y z : Int) (w : World) (hT : OpTab w) (hk : (Lit.int .u8 k).wf = true) (hx : (Lit.int .u64 x).wf = true) (hy : (Lit.int .u64 y).wf = true) (hz : (Lit.int .u64 z).wf = true) :
    Calls Tryd.prog 4 #[.int .u8 k, .int .u64 x, .int .u64 y, .int .u64 z] w fun e w' => e = .returned (.bool true) ∧ Below w.heap.size w w' := by
  obtain ⟨k, rfl, lk⟩ := u8_nat9 hk
  obtain ⟨x, rfl, lx⟩ := u64_nat9 hx
  obtain ⟨y, rfl, ly⟩ := u64_nat9 hy
  obtain ⟨z, rfl, lz⟩ := u64_nat9 hz
  clear hk hx hy hz
  have e1 : (1 : Int) + (k : Int) % 64 = ((1 + k % 64 : Nat) : Int) := by omega
  have e2 : IntKind.i64.wrap (1 + (k : Int) % 64) = ((1 + k % 64 : Nat) : Int) := by rw [IntKind.wrap_i64]; omega
  generalize 1 + k % 64 = W at *
  obtain ⟨w1, hw1⟩ : ∃ X, X = w.alloc (.cells #[.int .u64 (x : Int), .int .u64 (y : Int), .int .u64 (z : Int)] 24) := ⟨_, rfl⟩
  have hb1 : Below w.heap.size w w1 := by rw [hw1]; exact below_box _ _
  have hv : Words w1 (.slice (some ⟨w.heap.size, 0, none⟩) 3 3) [x, y, z] := by rw [hw1]; exact words3 w 24 lx ly lz
  have C1 := Lib.hid (fun (n o : Nat) (hn : n ≤ 3) (ho : o < 256) (wr : World) (hb : Below w1.heap.size w1 wr) => apply_any o W ([x, y, z].take n) _ wr ho ((hT.below hb1).below hb) ((Words.take (l := [x, y, z]) (n := n) hv (by simpa using hn) (by simp)).below hb))
  have C2 := Lib.hid (fun (n o : Nat) (hn : n ≤ 3) (ho : o < 256) (wr : World) (hb : Below w1.heap.size w1 wr) => rapply_any o W ([x, y, z].take n) _ wr ho ((Words.take (l := [x, y, z]) (n := n) hv (by simpa using hn) (by simp)).below hb))
  have C3 := Lib.hid (fun (wr : World) (hb : Below w1.heap.size w1 wr) => known9_any wr ((hT.below hb1).below hb))
  have HB1 := Lib.hid hb1
  clear hT hv lx ly lz hb1
  generalize hl : [x, y, z] = l at *
  clear hl
  go_enter Tryd.func4, Tryd.ntmps4
  go_wp2
  rw [← hw1]
  have HW1 := Lib.hid hw1
  clear hw1
  go_loopw [11] (fun ov wr => ∃ o : Nat, ov = .int .u8 (o : Int) ∧ o ≤ 22 ∧ Below w1.heap.size w1 wr) (fun ov _ => 256 - (intOf ov).toNat)
  case atStart => exact ⟨2, rfl, by omega, Below.refl _ _⟩
  case round =>
    obtain ⟨o, rfl, ho, hb⟩ := hrel
    by_cases hlt : o ≤ 21
    · have g1 : (o : Int) ≤ 21 := by omega
      have HB := Lib.hid hb
      clear hb
      go_wp2
      rename World => w6
      go_loopw [12] (fun nv wr => ∃ n : Nat, nv = .int .i64 (n : Int) ∧ n ≤ 4 ∧ Below w1.heap.size w1 wr) (fun nv _ => 100 - (intOf nv).toNat)
      case atStart => exact ⟨1, rfl, by omega, HB.out⟩
      case round =>
        obtain ⟨n, rfl, hn, hb⟩ := hrel
        by_cases hlt2 : n ≤ 3
        · have g2 : (n : Int) ≤ 3 := by omega
          have D1 := Lib.hid (C1.out n o hlt2 (by omega) _ hb)
          have D2 := Lib.hid (fun wr' hb' => C2.out n o hlt2 (by omega) wr' hb')
          have HBr := Lib.hid hb
          clear hb
          generalize apV o W (l.take n) = q1 at *
          generalize apE o W (l.take n) = q2 at *
          go_wp2_with (go_at_call 13; refine (D1.out).mono ?_; rintro e w2 ⟨rfl, hb⟩; refine Hid.out ?_)
          have HB2 := Lib.hid (HBr.out.trans (hb.mono HBr.out.size))
          clear hb
          have D3 := Lib.hid (D2.out _ HB2.out)
          refine Lib.hid ?_
          go_wp2_with (go_at_call 15; refine (D3.out).mono ?_; rintro e w3 ⟨rfl, rfl⟩)
          go_roundw
          case rel => exact ⟨n + 1, by simp, by omega, HB2.out⟩
          case measure => simp [intOf]; omega
        · have g2 : ¬ (n : Int) ≤ 3 := by omega
          have HBr := Lib.hid hb
          clear hb
          have e3 : IntKind.u8.wrap ((o : Int) + 1) = ((o + 1 : Nat) : Int) := by rw [IntKind.wrap_u8]; omega
          have e4 : ((o : Int) + 1) % 256 = ((o + 1 : Nat) : Int) := by omega
          go_wp2
          go_roundw
          case rel => exact ⟨o + 1, by simp, by omega, HBr.out⟩
          case measure => simp [intOf]; omega
    · have g1 : ¬ (o : Int) ≤ 21 := by omega
      have D := Lib.hid (C3.out _ hb)
      have HB := Lib.hid hb
      clear hb
      go_wp2_with (go_at_call 12; refine (D.out).mono ?_; rintro e w2 ⟨rfl, hb⟩)
      go_ret
      exact ⟨rfl, HB1.out.trans ((HB.out.trans (hb.mono HB.out.size)).mono HB1.out.size)⟩
end W9
end Go.Proofs.YtmplmpiljjilnaaDoor
