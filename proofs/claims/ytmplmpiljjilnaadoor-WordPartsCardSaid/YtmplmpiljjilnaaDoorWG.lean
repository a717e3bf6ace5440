/- WordParts: the walk. -/
import Derived.Test.YtmplmpiljjilnaaDoorQR
import Derived.Deep.CutRange
namespace Go.Proofs.YtmplmpiljjilnaaDoor
open Go.RowKit
open L
namespace W9
set_option maxRecDepth 100000

set_option maxHeartbeats 8000000 in
theorem parts9_walk (k o0 ls x y z h : Int) (w : World) (hT : OpTab w) (hk : (Lit.int .u8 k).wf = true) (ho0 : (Lit.int .u8 o0).wf = true) (hls : (Lit.int .u8 ls).wf = true) (hx : (Lit.int .u64 x).wf = true) (hy : (Lit.int .u64 y).wf = true) (hz : (Lit.int .u64 z).wf = true) (hh : (Lit.int .u64 h).wf = true) :
    Calls Tryd.prog 11 #[.int .u8 k, .int .u8 o0, .int .u8 ls, .int .u64 x, .int .u64 y, .int .u64 z, .int .u64 h] w fun e w' => e = .returned (.bool true) ∧ Below w.heap.size w w' := by
  obtain ⟨k, rfl, lk⟩ := u8_nat9 hk
  clear hk
  obtain ⟨o0, rfl, lo0⟩ := u8_nat9 ho0
  clear ho0
  obtain ⟨ls, rfl, lls⟩ := u8_nat9 hls
  clear hls
  obtain ⟨x, rfl, lx⟩ := u64_nat9 hx
  clear hx
  obtain ⟨y, rfl, ly⟩ := u64_nat9 hy
  clear hy
  obtain ⟨z, rfl, lz⟩ := u64_nat9 hz
  clear hz
  obtain ⟨h, rfl, lh⟩ := u64_nat9 hh
  clear hh
  obtain ⟨o, ho⟩ : ∃ o, o = 2 + o0 % 20 := ⟨_, rfl⟩
  have o1 : 2 ≤ o := by omega
  have o2 : o ≤ 21 := by omega
  have eo1 : (2 : Int) + (o0 : Int) % 20 = (o : Int) := by omega
  have eo2 : IntKind.u8.wrap (2 + (o0 : Int) % 20) = (o : Int) := by rw [IntKind.wrap_u8]; omega
  have eo3 : ((2 : Int) + (o0 : Int) % 20) % 256 = (o : Int) := by omega
  clear ho
  have CW := Lib.hid (with_any k w lk hT)
  clear hT
  obtain ⟨W, hW⟩ : ∃ W, W = 1 + k % 64 := ⟨_, rfl⟩
  have h1 : 1 ≤ W := by omega
  have h2 : W ≤ 64 := by omega
  rw [← hW] at CW
  have HW := Lib.hid hW
  clear hW
  go_enter Tryd.func11, Tryd.ntmps11
  go_wp2_with (go_at_call 23; refine (CW.out).mono ?_; rintro e w1 ⟨b, rfl, hs⟩; refine Hid.out ?_)
  have hc0 := hs.cell0
  have HAr := Lib.hid (arity_any o w1 (by omega) hs.tab)
  have hc1 := hs.cell1
  obtain ⟨n, hn⟩ : ∃ n : Nat, (n : Int) = arA o := by
    rcases ar_range o o1 o2 with e | e | e <;> rw [e]
    · exact ⟨1, rfl⟩
    · exact ⟨2, rfl⟩
    · exact ⟨3, rfl⟩
  have n1 : 1 ≤ n := by rcases ar_range o o1 o2 with e | e | e <;> omega
  have n3 : n ≤ 3 := by rcases ar_range o o1 o2 with e | e | e <;> omega
  have hE : arE o = 0 := by unfold arE; rw [if_pos (by omega)]
  rw [hE, ← hn] at HAr
  have HN := Lib.hid hn
  clear hn hE
  have gn1 : ¬ (n : Int) < 1 := by omega
  have gn2 : ¬ (n : Int) > 3 := by omega
  refine Lib.hid ?_
  go_upto_region 7 with (go_at_call 27; refine (HAr.out).mono ?_; rintro e w2 ⟨rfl, rfl⟩)
  iterate 19 (first | go_step | go_values | go_back)
  go_cut [18] from 49 (fun av wc => ∃ a : Nat, av = .int .u64 (a : Int) ∧ a < 18446744073709551616 ∧ a % 2 ^ W = 0 ∧ w1 = wc)
  case first =>
    by_cases hW : W < 64
    · have g : (W : Int) < 64 := by omega
      have eW : IntKind.u64.wrap (W : Int) = (W : Int) := wid64 W h2
      have e6 : min W 64 = W := Nat.min_eq_left h2
      have hx : IntKind.u64.wrap ((h : Int) * 2 ^ W) = ((h * 2 ^ W % 2 ^ 64 : Nat) : Int) := by rw [← cast_pow, ← Int.natCast_mul, wr_nat]
      have hq1 : h * 2 ^ W % 2 ^ 64 < 18446744073709551616 := by rw [← pow64]; exact Nat.mod_lt _ (pow_pos 64)
      have hq2 : h * 2 ^ W % 2 ^ 64 % 2 ^ W = 0 := by rw [Nat.mod_mod_of_dvd _ (pow_dvd h2), Nat.mul_mod_left]
      have HQ1 := Lib.hid hq1
      have HQ2 := Lib.hid hq2
      clear hq1 hq2
      generalize h * 2 ^ W % 2 ^ 64 = q at *
      go_wp2
      go_meet
      case rel => exact ⟨q, rfl, HQ1.out, HQ2.out, rfl⟩
    · have g : ¬ (W : Int) < 64 := by omega
      go_wp2
      go_meet
      case rel => exact ⟨0, rfl, by decide, Nat.zero_mod _, rfl⟩
  case rest =>
    obtain ⟨a, rfl, la, ha, rfl⟩ := hcut
    have s1 := wr_nat (x + a)
    have hx : IntKind.u64.wrap ((x : Int) + (a : Int)) = (((x + a) % 2 ^ 64 : Nat) : Int) := by rw [← Int.natCast_add]; exact s1
    have hy : IntKind.u64.wrap ((y : Int) - (a : Int)) = (((2 ^ 64 + y - a) % 2 ^ 64 : Nat) : Int) := x5 (W := 1) (c := 0) ly la
    have hz : bits .xor .u64 (z : Int) (a : Int) = ((z ^^^ a : Nat) : Int) := u64_xor_nat z a lz la
    have mx : x % 2 ^ W = (x + a) % 2 ^ 64 % 2 ^ W := by rw [Nat.mod_mod_of_dvd _ (pow_dvd h2), Nat.add_mod, ha, Nat.add_zero, Nat.mod_mod]
    have my : y % 2 ^ W = (2 ^ 64 + y - a) % 2 ^ 64 % 2 ^ W := by
      rw [Nat.mod_mod_of_dvd _ (pow_dvd h2)]
      obtain ⟨t, ht⟩ := Nat.dvd_of_mod_eq_zero ha
      obtain ⟨q, hq⟩ := pow_dvd h2
      have hle : t ≤ q := by
        rw [← pow64, hq, ht] at la
        exact Nat.le_of_lt (Nat.lt_of_mul_lt_mul_left la)
      have e : 2 ^ 64 + y - a = y + 2 ^ W * (q - t) := by
        have := Nat.mul_le_mul_left (2 ^ W) hle
        rw [Nat.mul_sub, ← hq, ← ht]; rw [hq, ht]; omega
      rw [e, Nat.add_mul_mod_self_left]
    have mz : z % 2 ^ W = (z ^^^ a) % 2 ^ W := by rw [Nat.xor_mod_two_pow, ha, Nat.xor_zero]
    have lxa : (x + a) % 2 ^ 64 < 18446744073709551616 := by rw [← pow64]; exact Nat.mod_lt _ (pow_pos 64)
    have lya : (2 ^ 64 + y - a) % 2 ^ 64 < 18446744073709551616 := by rw [← pow64]; exact Nat.mod_lt _ (pow_pos 64)
    have lza : z ^^^ a < 18446744073709551616 := by rw [← pow64] at *; exact xor_lt lz la
    generalize (x + a) % 2 ^ 64 = xa at *
    generalize (2 ^ 64 + y - a) % 2 ^ 64 = ya at *
    generalize z ^^^ a = za at *
    clear s1 ha la
    obtain ⟨w2, hw2⟩ : ∃ X, X = w1.alloc (.cells #[.int .u64 (x : Int), .int .u64 (y : Int), .int .u64 (z : Int)] 24) := ⟨_, rfl⟩
    obtain ⟨w3, hw3⟩ : ∃ X, X = w2.alloc (.cells #[.int .u64 (xa : Int), .int .u64 (ya : Int), .int .u64 (za : Int)] 24) := ⟨_, rfl⟩
    have hv1 : Words w2 (.slice (some ⟨w1.heap.size, 0, none⟩) 3 3) [x, y, z] := by rw [hw2]; exact words3 w1 24 lx ly lz
    have hs2 : w2.heap.size = w1.heap.size + 1 := by rw [hw2]; simp
    have hv2 : Words w3 (.slice (some ⟨w1.heap.size + 1, 0, none⟩) 3 3) [xa, ya, za] := by rw [hw3, ← hs2]; exact words3 w2 24 lxa lya lza
    have hb12 : Below w1.heap.size w1 w2 := by rw [hw2]; exact below_box _ _
    have hb23 : Below w2.heap.size w2 w3 := by rw [hw3]; exact below_box _ _
    have t1 := (Words.take (l := [x, y, z]) (n := n) hv1 (by simpa using n3) (by simp)).below hb23
    have t2 := Words.take (l := [xa, ya, za]) (n := n) hv2 (by simpa using n3) (by simp)
    have hs3 : St w b W w3 := (hs.next hb12).next hb23
    have hl1 : ((([x, y, z].take n).length : Nat) : Int) = arA o := by rw [← HN.out]; simp; omega
    have hl2 : ((([xa, ya, za].take n).length : Nat) : Int) = arA o := by rw [← HN.out]; simp; omega
    have hA1 : apE o W ([x, y, z].take n) = 0 := apE_ok h1 h2 o1 o2 hl1
    have hA2 : apE o W ([xa, ya, za].take n) = 0 := apE_ok h1 h2 o1 o2 hl2
    have heq : apV o W ([xa, ya, za].take n) = apV o W ([x, y, z].take n) := apV_congr (by simp) (fun j => (take_same n1 n3 mx my mz j).symm)
    have hvW : apV o W ([x, y, z].take n) < 2 ^ W := by rw [apV_good hA1]; exact ap_lt h1 (args_lt _ _ _) (args_lt _ _ _) (args_lt _ _ _)
    have C1 := of_anyB w w3 b W o _ _ (by omega) hs3 t1 hA1
    have C2 := Lib.hid (fun w4 (hb : Below w3.heap.size w3 w4) => of_anyB w w4 b W o _ _ (by omega) (hs3.next hb) (t2.below hb) hA2)
    have C3 := Lib.hid (fun w4 (hb : Below w3.heap.size w3 w4) => ctrim_anyB w w4 b W (apV o W ([x, y, z].take n)) h1 h2 (hs3.next hb) (lt64 h2 hvW))
    rw [Nat.mod_eq_of_lt hvW] at C3
    rw [heq] at C2
    -- the narrower calculator
    obtain ⟨K, hK⟩ : ∃ K, K = 1 + ls % W := ⟨_, rfl⟩
    have K1 : 1 ≤ K := by omega
    have K2 : K ≤ W := by have := Nat.mod_lt ls (show 0 < W by omega); omega
    have eK0 : ¬ (W : Int) = 0 := by omega
    have hlw : (ls : Int) % (W : Int) < 64 := by
      have := Nat.mod_lt ls (show 0 < W by omega)
      have e : (ls : Int) % (W : Int) = ((ls % W : Nat) : Int) := rfl
      rw [e]; omega
    have hlw0 : 0 ≤ (ls : Int) % (W : Int) := Int.natCast_nonneg (ls % W)
    have eK1 : (1 : Int) + (ls : Int) % (W : Int) = (K : Int) := by
      have e : (ls : Int) % (W : Int) = ((ls % W : Nat) : Int) := rfl
      rw [e]; omega
    have eK2 : IntKind.i64.wrap (1 + (ls : Int) % (W : Int)) = (K : Int) := by rw [eK1, IntKind.wrap_i64]; omega
    have HK := Lib.hid hK
    clear hK
    have L1 : ∀ (ho : o = 2 ∨ o = 3 ∨ o = 4 ∨ o = 5 ∨ o = 6 ∨ o = 9 ∨ o = 10 ∨ o = 11), apV o K ([x, y, z].take n) = apV o W ([x, y, z].take n) % 2 ^ K := fun ho => apV_low K1 K2 h2 n1 n3 HN.out ho
    have L2 : o = 12 → apV o W ([x, y, z].take n) = wd W 12 x y 0 := fun e => by
      subst e
      have : n = 2 := by have := HN.out; rw [show arA 12 = 2 from rfl] at this; omega
      subst this
      rw [apV_wd hA1]; rfl
    have hB1 : apE o K ([x, y, z].take n) = 0 := apE_ok K1 (by omega) o1 o2 hl1
    have D1 := Lib.hid (fun w4 b2 (hb : Below w3.heap.size w3 w4) (hk : St w b2 K w4) => of_anyB w w4 b2 K o _ _ (by omega) hk (t1.below hb) hB1)
    have D2 := Lib.hid (fun w4 b2 (hk : St w b2 K w4) => ctrim_anyB w w4 b2 K (apV o W ([x, y, z].take n)) K1 (by omega) hk (lt64 h2 hvW))
    have HV := Lib.hid (lt64 h2 hvW)
    have HC1 := Lib.hid C1
    have HL1 := Lib.hid L1
    have HL2 := Lib.hid L2
    have HS3 := Lib.hid hs3
    have c03 := hs3.cell0
    clear C1 L1 L2 hA1 hA2 hB1 heq hvW t1 t2 hv1 hv2 hs hs3 hl1 hl2 mx my mz lxa lya lza hb12 hb23
    generalize hgv : apV o W ([x, y, z].take n) = v at *
    generalize hgk : apV o K ([x, y, z].take n) = vk at *
    have HGV := Lib.hid hgv
    clear hgv hgk
    have HW2 := Lib.hid hw2
    have HW3 := Lib.hid hw3
    rw [hw3, hw2] at HC1
    clear hw2 hw3
    go_wp2_with (go_at_call 25; with_reducible refine (HC1.out).mono ?_; rintro e w4 ⟨rfl, hb⟩; refine Hid.out ?_)
    have hb4 : Below w3.heap.size w3 w4 := by rw [HW3.out, HW2.out]; exact hb
    have c04 := (HS3.out.next hb4).cell0
    have c14 := (HS3.out.next hb4).cell1
    clear hb HC1
    refine Lib.hid ?_
    go_upto_region 13 with (first
      | (go_at_call 26; with_reducible refine (C3.out _ (by assumption)).mono ?_; rintro e w5 ⟨rfl, hb'⟩; have hb5 : Below w3.heap.size w3 w5 := Below.trans (by assumption) (hb'.mono (Below.size (by assumption))); have c05 := (HS3.out.next hb5).cell0)
      | (go_at_call 25; with_reducible refine (C2.out _ (by assumption)).mono ?_; rintro e w6 ⟨rfl, hb'⟩; have hb6 : Below w3.heap.size w3 w6 := Below.trans (by assumption) (hb'.mono (Below.size (by assumption))); have c06 := (HS3.out.next hb6).cell0))
    iterate 38 (first | go_step | go_values | go_back)
    obtain ⟨w7, hw7⟩ : ∃ X, X = w6.alloc (.cells #[.int .i64 (K : Int), .bool false] 48) := ⟨_, rfl⟩
    rw [← hw7]
    have hb67 : Below w6.heap.size w6 w7 := by rw [hw7]; exact below_box _ _
    have hs6 := HS3.out.next hb6
    have hs7 := hs6.next hb67
    have hb7 := hb6.trans (hb67.mono hb6.size)
    have hk7 : St w w6.heap.size K w7 := ⟨hs7.below, by rw [hw7]; exact Deep.blk_alloc_new w6 _, hs7.tab, hs6.below.size⟩
    have HB7 := Lib.hid hb7
    have HS7 := Lib.hid hs7
    have HK7 := Lib.hid hk7
    have ck0 := hk7.cell0
    have c071 := hs7.cell1
    have E1 := Lib.hid (D1.out w7 _ hb7 hk7)
    have ET := Lib.hid (fun (v' : Nat) w8 (hv' : v' < 18446744073709551616) (h8 : St w b W w8) => ctrim_anyB w w8 b W v' h1 h2 h8 hv')
    have EK := Lib.hid (fun (v' : Nat) w8 (hv' : v' < 18446744073709551616) (h8 : St w w6.heap.size K w8) => ctrim_anyB w w8 w6.heap.size K v' K1 (by omega) h8 hv')
    have HX := Lib.hid (And.intro lx ly)
    have HW7 := Lib.hid hw7
    have HH := Lib.hid (And.intro h1 h2)
    have HKK := Lib.hid (And.intro K1 K2)
    generalize w6.heap.size = b2 at *
    clear hw7 hb7 hs7 hk7 hb6 hb' hb5 hb4 hb67 hs6 C2 C3 c03 c04 c14 c05 c06 hc0 hc1 hs2 hx hy hz eK0 hlw hlw0 eK1 eK2 gn1 gn2 eo1 eo2 eo3 lx ly lz lh lk lo0 lls
    go_cut [23] from 101 (fun _ wc => St w b W wc ∧ St w b2 K wc)
    case first =>
      by_cases hA : o = 2 ∨ o = 3 ∨ o = 4 ∨ o = 5 ∨ o = 6 ∨ o = 9 ∨ o = 10 ∨ o = 11
      · have hvk := HL1.out hA
        subst hvk
        rcases hA with rfl | rfl | rfl | rfl | rfl | rfl | rfl | rfl
        all_goals
          go_wp2_with (go_at_call 25; refine (E1.out).mono ?_; rintro e w8 ⟨rfl, hb8⟩; refine Hid.out ?_)
          have hk8 := HK7.out.next hb8
          have ck8 := hk8.cell0
          have HB8 := Lib.hid hb8
          have HK8 := Lib.hid hk8
          have E2 := Lib.hid (EK.out v w8 HV.out hk8)
          clear hb8 hk8
          refine Lib.hid ?_
          go_wp2_with (go_at_call 26; refine (E2.out).mono ?_; rintro e w9 ⟨rfl, hb9⟩)
          go_meet
          case rel => exact ⟨(HS7.out.next HB8.out).next hb9, HK8.out.next hb9⟩
      · have k1 : ((o : Int) == 2) = false := beq_eq_false_iff_ne.2 (by omega)
        have k2 : ((o : Int) == 3) = false := beq_eq_false_iff_ne.2 (by omega)
        have k3 : ((o : Int) == 4) = false := beq_eq_false_iff_ne.2 (by omega)
        have k4 : ((o : Int) == 5) = false := beq_eq_false_iff_ne.2 (by omega)
        have k5 : ((o : Int) == 6) = false := beq_eq_false_iff_ne.2 (by omega)
        have k6 : ((o : Int) == 9) = false := beq_eq_false_iff_ne.2 (by omega)
        have k7 : ((o : Int) == 10) = false := beq_eq_false_iff_ne.2 (by omega)
        have k8 : ((o : Int) == 11) = false := beq_eq_false_iff_ne.2 (by omega)
        by_cases h12 : o = 12
        · have hv12 := HL2.out h12
          subst h12
          clear k1 k2 k3 k4 k5 k6 k7 k8 hA HL1
          have E2 := Lib.hid (ET.out y w7 HX.out.2 HS7.out)
          have eK : IntKind.u64.wrap (K : Int) = (K : Int) := wid64 K (by have := HKK.out; have := HH.out; omega)
          by_cases hB : y % 2 ^ W < K
          · have lB : y % 2 ^ W < 18446744073709551616 := md64 HH.out.2
            have hBK : y % 2 ^ W % 2 ^ K = y % 2 ^ W := Nat.mod_eq_of_lt (Nat.lt_trans hB Nat.lt_two_pow_self)
            have E3 := EK.out (y % 2 ^ W)
            rw [hBK] at E3
            have E4 := fun w8 (h8 : St w b2 K w8) => of2B (x := x) (y := y % 2 ^ W) (o := 12) h8 HKK.out.1 (by have := HKK.out; have := HH.out; omega) (by decide) HX.out.1 lB
            rw [low_shl HKK.out.2 hB, ← hv12] at E4
            have E5 := EK.out v
            have G1 := Lib.hid (fun w8 h8 => E3 w8 lB h8)
            have G2 := Lib.hid E4
            have G3 := Lib.hid (fun w8 h8 => E5 w8 HV.out h8)
            clear E3 E4 E5 hBK lB hv12
            have gB : ((y % 2 ^ W : Nat) : Int) < (K : Int) := by omega
            generalize y % 2 ^ W = B at *
            generalize v % 2 ^ K = vk at *
            go_wp2_with (go_at_call 26; with_reducible refine (E2.out).mono ?_; rintro e w8 ⟨rfl, hb8⟩; refine Hid.out ?_)
            have hk8 := HK7.out.next hb8
            have ck8 := hk8.cell0
            have HS8 := Lib.hid (HS7.out.next hb8)
            have M1 := Lib.hid (G1.out w8 hk8)
            have HK8 := Lib.hid hk8
            clear hb8 hk8
            refine Lib.hid ?_
            go_wp2_with (go_at_call 26; with_reducible refine (M1.out).mono ?_; rintro e w9 ⟨rfl, hb9⟩; refine Hid.out ?_)
            have hk9 := HK8.out.next hb9
            have HS9 := Lib.hid (HS8.out.next hb9)
            have M2 := Lib.hid (G2.out w9 hk9)
            have HK9 := Lib.hid hk9
            have HSZ : St w b W w9 := HS9.out
            clear hb9 hk9
            refine Lib.hid ?_
            go_wp2_with (go_at_call 25; refine (M2.out).mono ?_; rintro e w10 ⟨rfl, hb10⟩; refine Hid.out ?_)
            have hk10 := HK9.out.next hb10
            have HS10 := Lib.hid (HS9.out.next hb10)
            have M3 := Lib.hid (G3.out w10 hk10)
            have HK10 := Lib.hid hk10
            clear hb10 hk10
            refine Lib.hid ?_
            go_wp2_with (go_at_call 26; with_reducible refine (M3.out).mono ?_; rintro e w11 ⟨rfl, hb11⟩)
            go_meet
            case rel => exact ⟨HS10.out.next hb11, HK10.out.next hb11⟩
          · have gB : ¬ ((y % 2 ^ W : Nat) : Int) < (K : Int) := by omega
            clear hv12
            generalize y % 2 ^ W = B at *
            go_wp2_with (go_at_call 26; with_reducible refine (E2.out).mono ?_; rintro e w8 ⟨rfl, hb8⟩; have ck8 := (HK7.out.next hb8).cell0)
            go_meet
            case rel => exact ⟨HS7.out.next hb8, HK7.out.next hb8⟩
        · have k9 : ((o : Int) == 12) = false := beq_eq_false_iff_ne.2 (by omega)
          clear hA h12 HL1 HL2
          go_wp2
          go_meet
          case rel => exact ⟨HS7.out, HK7.out⟩
    case rest =>
      obtain ⟨hs, hk⟩ := hcut
      have hc1 := hs.cell1
      have hc2 := hk.cell1
      go_wp2_with (go_at_call 12; refine (hs.known).mono ?_; rintro e w9 ⟨rfl, hs9⟩)
      go_ret
      exact ⟨rfl, hs9.below⟩
end W9
end Go.Proofs.YtmplmpiljjilnaaDoor
