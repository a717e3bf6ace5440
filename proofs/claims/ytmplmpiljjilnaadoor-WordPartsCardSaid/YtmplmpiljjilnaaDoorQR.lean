/- Parts of words, plain; the calculator's calls, all that lies below staying. -/
import Derived.Test.YtmplmpiljjilnaaDoorQP
import Derived.Test.YtmplmpiljjilnaaDoorWB
namespace Go.Proofs.YtmplmpiljjilnaaDoor
open Go.RowKit
open L
namespace W9
set_option maxRecDepth 100000

theorem St.sameB {w0 w : World} {b W : Nat} (h : St w0 b W w) (B : Nat) : Below B w (w.setCell ⟨b, 1, none⟩ (.bool false)) := by
  have hb := heap_setCell_same w b 1 _ _ (.bool false) h.box
  have h2 : ∀ k, (w.setCell ⟨b, 1, none⟩ (.bool false)).heap[k]? = w.heap[k]? := fun k => by
    by_cases hk : k = b
    · subst hk; rw [hb, h.box]; rfl
    · exact Below.heap_setCell _ _ _ _ hk
  exact ⟨rfl, rfl, rfl, by simp [World.setCell], fun k _ => h2 k⟩
set_option maxHeartbeats 1000000 in
theorem of_anyB (w0 w : World) (b W o : Nat) (l : List Nat) (v : Value) (ho : o < 256) (hS : St w0 b W w) (hv : Words w v l) (he : apE o W l = 0) :
    Calls Tryd.prog 25 #[.pointer (some ⟨b, 0, none⟩), .int .u8 (o : Int), v] w fun e w' => e = .returned (uv (apV o W l)) ∧ Below w.heap.size w w' := by
  have C := apply_any o W l v w ho hS.tab hv
  rw [he] at C
  have HC := Lib.hid C
  have HS := Lib.hid hS
  have c0 := hS.cell0
  clear C he hv
  clear hS
  generalize apV o W l = q at *
  go_enter Tryd.func25, Tryd.ntmps25
  go_wp2_with (go_at_call 13; refine (HC.out).mono ?_; rintro e w1 ⟨rfl, hb⟩; refine Hid.out ?_)
  have S1 := HS.out.next hb
  have HS1 := Lib.hid S1
  have HB := Lib.hid hb
  have c1 := S1.cell1
  have f1 := S1.froz 1
  clear S1 hb
  refine Lib.hid ?_
  go_wp2
  go_ret
  exact ⟨rfl, HB.out.trans (HS1.out.sameB _)⟩
set_option maxHeartbeats 1000000 in
theorem ctrim_anyB (w0 w : World) (b W v : Nat) (h1 : 1 ≤ W) (h2 : W ≤ 64) (hS : St w0 b W w) (hv : v < 18446744073709551616) :
    Calls Tryd.prog 26 #[.pointer (some ⟨b, 0, none⟩), uv v] w fun e w' => e = .returned (uv (v % 2 ^ W)) ∧ Below w.heap.size w w' := by
  have C := trimW_any W v hv w
  have h : chkE (W : Int) = 0 := if_neg (by omega)
  rw [show tmV W v = v % 2 ^ W from if_pos h, h] at C
  have HC := Lib.hid C
  have HS := Lib.hid hS
  have c0 := hS.cell0
  have c1 := hS.cell1
  have f1 := hS.froz 1
  clear C h hS
  generalize v % 2 ^ W = q at *
  go_enter Tryd.func26, Tryd.ntmps26
  go_wp2_with (go_at_call 16; refine (HC.out).mono ?_; rintro e w1 ⟨rfl, rfl⟩)
  go_ret
  exact ⟨rfl, HS.out.sameB _⟩

/-! What is answered depends on the arguments modulo 2^W. -/
theorem apE_len {o : Nat} {W : Int} {l l' : List Nat} (h : l.length = l'.length) : apE o W l = apE o W l' := by unfold apE; rw [h]
theorem apV_congr {o W : Nat} {l l' : List Nat} (h : l.length = l'.length) (ha : ∀ j, args W l j = args W l' j) : apV o W l = apV o W l' := by
  by_cases he : apE o W l = 0
  · rw [apV_good he, apV_good (by rw [← apE_len h]; exact he), ha, ha, ha]
  · rw [apV_bad he, apV_bad (by rw [← apE_len h]; exact he)]
theorem take_args {W n j x y z : Nat} (_h1 : 1 ≤ n) (_h3 : n ≤ 3) : args W ([x, y, z].take n) j = if j < n then args W [x, y, z] j else 0 := by
  unfold args
  by_cases h : j < n
  · rw [if_pos h]; simp [List.getD, h]
  · rw [if_neg h]; simp [List.getD, List.getElem?_take, h]
theorem take_same {W n x y z x' y' z' : Nat} (h1 : 1 ≤ n) (h3 : n ≤ 3) (hx : x % 2 ^ W = x' % 2 ^ W) (hy : y % 2 ^ W = y' % 2 ^ W) (hz : z % 2 ^ W = z' % 2 ^ W) (j : Nat) : args W ([x, y, z].take n) j = args W ([x', y', z'].take n) j := by
  rw [take_args h1 h3, take_args h1 h3]
  split
  · have : j = 0 ∨ j = 1 ∨ j = 2 := by omega
    rcases this with rfl | rfl | rfl
    · exact hx
    · exact hy
    · exact hz
  · rfl

/-! The lowest bits of a result. -/
theorem mm {x K W : Nat} (h : K ≤ W) : x % 2 ^ W % 2 ^ K = x % 2 ^ K := Nat.mod_mod_of_dvd _ (pow_dvd h)
theorem low_sub {n P q t r A : Nat} (hq : n = P * q) (d : P * t + r = A) (hr : r < P) (ht : t < q) : n - A = (P - r) + P * (q - 1 - t) := by
  obtain ⟨u, rfl⟩ : ∃ u, q = t + 1 + u := ⟨q - 1 - t, by omega⟩
  rw [show t + 1 + u - 1 - t = u by omega]
  subst hq d
  rw [Nat.mul_add, Nat.mul_add, Nat.mul_one]
  omega
theorem low_parts {K W o x y z : Nat} (hK : K ≤ W) (ho : o = 2 ∨ o = 3 ∨ o = 4 ∨ o = 5 ∨ o = 6 ∨ o = 9 ∨ o = 10 ∨ o = 11) : ap K K o (x % 2 ^ K) (y % 2 ^ K) (z % 2 ^ K) = ap W W o (x % 2 ^ W) (y % 2 ^ W) (z % 2 ^ W) % 2 ^ K := by
  have hpK := pow_pos K
  have hpW := pow_pos W
  obtain ⟨q, hq⟩ := pow_dvd hK
  have hx : x % 2 ^ W < 2 ^ W := Nat.mod_lt _ hpW
  have hy : y % 2 ^ W < 2 ^ W := Nat.mod_lt _ hpW
  have ex := (mm (x := x) hK).symm
  have ey := (mm (x := y) hK).symm
  rw [ex, ey]
  generalize x % 2 ^ W = A at *
  generalize y % 2 ^ W = B at *
  have dA := Nat.div_add_mod A (2 ^ K)
  have dB := Nat.div_add_mod B (2 ^ K)
  have rA := Nat.mod_lt A hpK
  have rB := Nat.mod_lt B hpK
  have tA : A / 2 ^ K < q := Nat.div_lt_of_lt_mul (by rw [← hq]; exact hx)
  have tB : B / 2 ^ K < q := Nat.div_lt_of_lt_mul (by rw [← hq]; exact hy)
  have hd : 2 ^ K ∣ 2 ^ W := ⟨q, hq⟩
  rcases ho with rfl | rfl | rfl | rfl | rfl | rfl | rfl | rfl
  · show 2 ^ K - 1 - A % 2 ^ K = (2 ^ W - 1 - A) % 2 ^ K
    generalize A % 2 ^ K = r at *
    generalize A / 2 ^ K = t at *
    have e := low_sub (n := 2 ^ W) (P := 2 ^ K) (q := q) (t := t) (r := r) (A := A) hq dA rA tA
    rw [show 2 ^ W - 1 - A = (2 ^ K - 1 - r) + 2 ^ K * (q - 1 - t) by omega, Nat.add_mul_mod_self_left, Nat.mod_eq_of_lt (by omega)]
  · show (2 ^ K - A % 2 ^ K) % 2 ^ K = (2 ^ W - A) % 2 ^ W % 2 ^ K
    rw [Nat.mod_mod_of_dvd _ hd]
    generalize A % 2 ^ K = r at *
    generalize A / 2 ^ K = t at *
    have e := low_sub (n := 2 ^ W) (P := 2 ^ K) (q := q) (t := t) (r := r) (A := A) hq dA rA tA
    rw [e, Nat.add_mul_mod_self_left]
  · show (A % 2 ^ K + B % 2 ^ K) % 2 ^ K = (A + B) % 2 ^ W % 2 ^ K
    rw [Nat.mod_mod_of_dvd _ hd, ← Nat.add_mod]
  · show (2 ^ K + A % 2 ^ K - B % 2 ^ K) % 2 ^ K = (2 ^ W + A - B) % 2 ^ W % 2 ^ K
    rw [Nat.mod_mod_of_dvd _ hd]
    generalize B % 2 ^ K = r at *
    generalize B / 2 ^ K = t at *
    have e := low_sub (n := 2 ^ W) (P := 2 ^ K) (q := q) (t := t) (r := r) (A := B) hq dB rB tB
    rw [show 2 ^ W + A - B = (2 ^ K - r + A) + 2 ^ K * (q - 1 - t) by omega, Nat.add_mul_mod_self_left, show 2 ^ K + A % 2 ^ K - r = (2 ^ K - r) + A % 2 ^ K by omega, Nat.add_mod_mod]
  · show A % 2 ^ K * (B % 2 ^ K) % 2 ^ K = A * B % 2 ^ W % 2 ^ K
    rw [Nat.mod_mod_of_dvd _ hd, ← Nat.mul_mod]
  · show A % 2 ^ K &&& B % 2 ^ K = (A &&& B) % 2 ^ K
    rw [Nat.and_mod_two_pow]
  · show A % 2 ^ K ||| B % 2 ^ K = (A ||| B) % 2 ^ K
    rw [Nat.or_mod_two_pow]
  · show A % 2 ^ K ^^^ B % 2 ^ K = (A ^^^ B) % 2 ^ K
    rw [Nat.xor_mod_two_pow]
theorem low_shl {K W x y : Nat} (hK : K ≤ W) (hB : y % 2 ^ W < K) : wd K 12 x (y % 2 ^ W) 0 = wd W 12 x y 0 % 2 ^ K := by
  rw [wd12, wd12, Nat.mod_mod_of_dvd (x % 2 ^ W * 2 ^ (y % 2 ^ W)) (pow_dvd hK)]
  have h1 : y % 2 ^ W % 2 ^ K = y % 2 ^ W := Nat.mod_eq_of_lt (Nat.lt_trans hB Nat.lt_two_pow_self)
  rw [h1, ← mm hK (x := x), Nat.mod_mul_mod]
theorem apV_low {K W o n x y z : Nat} (hK1 : 1 ≤ K) (hK : K ≤ W) (hW : W ≤ 64) (h1 : 1 ≤ n) (h3 : n ≤ 3) (hn : (n : Int) = arA o) (ho : o = 2 ∨ o = 3 ∨ o = 4 ∨ o = 5 ∨ o = 6 ∨ o = 9 ∨ o = 10 ∨ o = 11) : apV o K ([x, y, z].take n) = apV o W ([x, y, z].take n) % 2 ^ K := by
  have hl : (([x, y, z].take n).length : Int) = arA o := by rw [← hn]; simp; omega
  have e1 : apE o K ([x, y, z].take n) = 0 := apE_ok hK1 (by omega) (by omega) (by omega) hl
  have e2 : apE o W ([x, y, z].take n) = 0 := apE_ok (by omega) hW (by omega) (by omega) hl
  rw [apV_good e1, apV_good e2]
  unfold args
  exact low_parts hK ho
theorem of2B {w0 w : World} {b W o x y : Nat} (hS : St w0 b W w) (h1 : 1 ≤ W) (h2 : W ≤ 64) (ho : 4 ≤ o ∧ o ≤ 20) (hx : x < 18446744073709551616) (hy : y < 18446744073709551616) :
    Calls Tryd.prog 25 #[.pointer (some ⟨b, 0, none⟩), .int .u8 (o : Int), .slice (some ⟨w.heap.size, 0, none⟩) 2 2] (w.alloc (.cells #[uv x, uv y] 24)) fun e w' => e = .returned (uv (wd W o x y 0)) ∧ Below w.heap.size w w' := by
  have he : apE o W [x, y] = 0 := apE_ok h1 h2 (by omega) (by omega) (by rw [ar2 o ho]; rfl)
  have := of_anyB w0 _ b W o [x, y] _ (by omega) (hS.next (below_box w (.cells #[uv x, uv y] 24))) (words2 w 24 hx hy) he
  rw [apV_wd he] at this
  exact this.mono fun _ _ ⟨h1, h2⟩ => ⟨h1, (below_box _ _).trans (h2.mono (by simp))⟩
end W9
end Go.Proofs.YtmplmpiljjilnaaDoor
