/- Contract of lit.Norm. -/
import Derived.Test.YtbmpjglplmnlnaaH
namespace Go.Proofs.Ytbmpjglplmnlnaa
open Go.RowKit
namespace L
open K

/-- The loop of Norm: what has been kept, what is to come. -/
def normGo (acc : List Int) : List Int → Option (List Int)
  | [] => some acc
  | x :: r => if x = 0 then normGo acc r else
    if acc = [] then normGo (acc ++ [x]) r else
    if acc.getD (acc.length - 1) 0 = x then normGo acc r else
    if av (acc.getD (acc.length - 1) 0) = av x then none else normGo (acc ++ [x]) r
/-- What Norm returns: none if the clause always holds. -/
def normR (c : List Int) : Option (List Int) := normGo [] (sortI c)

theorem drop_getD {s : List Int} {k : Nat} (h : k < s.length) : s.drop k = s.getD k 0 :: s.drop (k + 1) := by
  rw [List.drop_eq_getElem_cons h]; simp [List.getD, h]
theorem normGo_zero {acc s : List Int} {k : Nat} (h : k < s.length) (h0 : s.getD k 0 = 0) : normGo acc (s.drop k) = normGo acc (s.drop (k + 1)) := by
  rw [drop_getD h, normGo, if_pos h0]
theorem normGo_first {acc s : List Int} {k : Nat} (h : k < s.length) (h0 : s.getD k 0 ≠ 0) (ha : acc.length = 0) : normGo acc (s.drop k) = normGo (acc ++ [s.getD k 0]) (s.drop (k + 1)) := by
  have : acc = [] := List.length_eq_zero_iff.1 ha
  rw [drop_getD h, normGo, if_neg h0, if_pos this]
theorem normGo_same {acc s : List Int} {k : Nat} (h : k < s.length) (h0 : s.getD k 0 ≠ 0) (ha : 0 < acc.length) (he : acc.getD (acc.length - 1) 0 = s.getD k 0) : normGo acc (s.drop k) = normGo acc (s.drop (k + 1)) := by
  have : acc ≠ [] := fun h => by simp [h] at ha
  rw [drop_getD h, normGo, if_neg h0, if_neg this, if_pos he]
theorem normGo_fail {acc s : List Int} {k : Nat} (h : k < s.length) (h0 : s.getD k 0 ≠ 0) (ha : 0 < acc.length) (he : acc.getD (acc.length - 1) 0 ≠ s.getD k 0) (hv : av (acc.getD (acc.length - 1) 0) = av (s.getD k 0)) : normGo acc (s.drop k) = none := by
  have : acc ≠ [] := fun h => by simp [h] at ha
  rw [drop_getD h, normGo, if_neg h0, if_neg this, if_neg he, if_pos hv]
theorem normGo_push {acc s : List Int} {k : Nat} (h : k < s.length) (h0 : s.getD k 0 ≠ 0) (ha : 0 < acc.length) (hv : av (acc.getD (acc.length - 1) 0) ≠ av (s.getD k 0)) : normGo acc (s.drop k) = normGo (acc ++ [s.getD k 0]) (s.drop (k + 1)) := by
  have : acc ≠ [] := fun h => by simp [h] at ha
  have he : acc.getD (acc.length - 1) 0 ≠ s.getD k 0 := fun h => hv (by rw [h])
  rw [drop_getD h, normGo, if_neg h0, if_neg this, if_neg he, if_neg hv]

/-- What the row holds in a round: the kept ones in front, the sorted list from k on. -/
def Row (s : List Int) (k : Nat) (acc xs : List Int) : Prop := xs.length = s.length ∧ acc.length ≤ k ∧ (∀ j, j < acc.length → xs.getD j 0 = acc.getD j 0) ∧ (∀ j, k ≤ j → xs.getD j 0 = s.getD j 0)

theorem Row.skip {s acc xs : List Int} {k : Nat} (h : Row s k acc xs) : Row s (k + 1) acc xs := ⟨h.1, by have := h.2.1; omega, h.2.2.1, fun j hj => h.2.2.2 j (by omega)⟩
theorem getD_set_same {xs : List Int} {j : Nat} {x : Int} (h : j < xs.length) : (xs.set j x).getD j 0 = x := by simp [List.getD, h]
theorem getD_set_other {xs : List Int} {i j : Nat} {x : Int} (h : i ≠ j) : (xs.set i x).getD j 0 = xs.getD j 0 := by simp [List.getD, List.getElem?_set, h]
theorem getD_snoc_same {xs : List Int} {x : Int} : (xs ++ [x]).getD xs.length 0 = x := by simp [List.getD]
theorem getD_snoc_other {xs : List Int} {j : Nat} {x : Int} (h : j < xs.length) : (xs ++ [x]).getD j 0 = xs.getD j 0 := by simp [List.getD, List.getElem?_append_left h]
theorem Row.push {s acc xs : List Int} {k : Nat} {x : Int} (h : Row s k acc xs) (hk : k < s.length) : Row s (k + 1) (acc ++ [x]) (xs.set acc.length x) := by
  obtain ⟨h1, h2, h3, h4⟩ := h
  refine ⟨by simpa using h1, by simp; omega, fun j hj => ?_, fun j hj => ?_⟩
  · by_cases hj2 : j = acc.length
    · subst hj2; rw [getD_set_same (by omega), getD_snoc_same]
    · have : j < acc.length := by simp at hj; omega
      rw [getD_set_other (by omega), getD_snoc_other this, h3 j this]
  · rw [getD_set_other (by omega), h4 j (by omega)]

theorem cell_of {w : World} {B g n cap : Nat} {xs : List Int} (h : w.ownsRow B 3 1 (.slice (some ⟨g, 0, none⟩) n cap) n (xs.map (Value.int .i64))) {j : Nat} (hj : j < xs.length) : w.cell? ⟨g, j, none⟩ = some (.int .i64 (xs.getD j 0)) := by
  have hl := h.1
  rw [h.cellAt j (by simp at hl; omega)]
  simp [List.getD, hj]

theorem mem_sortI {l : List Int} {x : Int} (h : x ∈ sortI l) : x ∈ l := (List.mergeSort_perm l _).subset h
theorem len_sortI (l : List Int) : (sortI l).length = l.length := by simp [sortI]

/-- Behind the store of a kept literal. -/
theorem push_own {w wr : World} {B g n cap k : Nat} {s acc xs : List Int} {x : Int} (hrow : Row s k acc xs) (hk : k < s.length) (hB : B ≤ g)
    (hown : wr.ownsRow B 3 1 (.slice (some ⟨g, 0, none⟩) n cap) n (xs.map (Value.int .i64))) (hb : Below B w wr) :
    Row s (k + 1) (acc ++ [x]) (xs.set acc.length x) ∧ (wr.setCell ⟨g, acc.length, none⟩ (.int .i64 x)).ownsRow B 3 1 (.slice (some ⟨g, 0, none⟩) n cap) n ((xs.set acc.length x).map (Value.int .i64)) ∧ Below B w (wr.setCell ⟨g, acc.length, none⟩ (.int .i64 x)) := by
  refine ⟨hrow.push hk, ?_, hb.setCell hB _⟩
  have := (hown.stored acc.length (.int .i64 x)).1
  rwa [← List.map_set] at this

/-- A slice whose block holds ints. -/
def TypedI (w : World) (u : Value) : Prop := ∀ k, u.ownBlock = some k → ∃ cur, w.heap[k]? = some (.cells cur 3 (0, 0))
theorem TypedI.none (w : World) : TypedI w (.slice Option.none 0 0) := fun k hk => by simp [Value.ownBlock] at hk
theorem TypedI.of_owns {w : World} {B g n cap n' cap' : Nat} {xs : List Value} (h : w.ownsRow B 3 1 (.slice (some ⟨g, 0, Option.none⟩) n cap) n xs) : TypedI w (.slice (some ⟨g, 0, Option.none⟩) n' cap') := by
  intro k hk
  simp only [Value.ownBlock, Option.some.injEq] at hk
  subst hk
  rcases h.2 with ⟨h', _⟩ | ⟨g', cap'', cur, h', _, hg, _⟩
  · simp at h'
  · simp only [Value.slice.injEq, Option.some.injEq, Addr.mk.injEq, and_true, true_and] at h'
    obtain ⟨rfl, rfl⟩ := h'
    exact ⟨cur, hg⟩

set_option maxHeartbeats 2000000 in
theorem norm_any (v : Value) (l : List Int) (w : World) (hl : ∀ x ∈ l, I64 x) (h : Ints w v l) :
    Calls Try.prog 25 #[v] w fun e w' => ∃ v', e = .returned (.tuple #[v', .bool (normR l).isNone]) ∧ Ints w' v' ((normR l).getD []) ∧ Below w.heap.size w w' ∧ TypedI w' v' := by
  have hm8 : l.length * 8 ≤ 140737488351232 := by obtain ⟨_, _, _, _, h, _⟩ := h; exact h
  go_enter Try.func25, Try.ntmps25
  go_wp2_with fail
  refine (ordered_any v l w hl h).mono ?_
  rintro e w1 ⟨v', rfl, hown, hb⟩
  have hs64 : ∀ x ∈ sortI l, I64 x := fun x hx => hl x (mem_sortI hx)
  rcases hown.2 with ⟨hv, h0⟩ | ⟨g, cap, cur, hv, hbg, hg, hn, hcap, hszc, htake⟩
  · obtain rfl : l = [] := List.length_eq_zero_iff.1 h0
    subst hv
    go_wp2
    refine wp_loop_rounds 1 ?_
    rw [rounds_succ]
    go_wp2
    go_ret2
    have hn : normR [] = some [] := by simp [normR, sortI, normGo]
    rw [hn]
    exact ⟨_, rfl, ⟨none, 0, rfl, Nat.le_refl _, by simp, fun h => by simp at h⟩, hb, TypedI.none _⟩
  · subst hv
    have hls := len_sortI l
    have hR : normR l = normGo [] ((sortI l).drop 0) := rfl
    have HR := Lib.hid hR
    clear hR
    generalize sortI l = s at hown hs64 hls HR
    have HLS := Lib.hid hls
    have hgB : w.heap.size ≤ g := hbg
    clear hls htake hg hl h hbg
    go_wp2
    go_loopw [5, 13] (fun kp i wr => ∃ (k : Nat) (acc xs : List Int), k ≤ l.length ∧ i = .int .i64 k ∧ kp = .int .i64 acc.length ∧ Row s k acc xs ∧ (∀ j, j < acc.length → I64 (acc.getD j 0)) ∧ normR l = normGo acc (s.drop k) ∧ wr.ownsRow w.heap.size 3 1 (.slice (some ⟨g, 0, none⟩) l.length cap) l.length (xs.map (Value.int .i64)) ∧ Below w.heap.size w wr) (fun _ i _ => l.length - (intOf i).toNat)
    case atStart => exact ⟨0, [], s, Nat.zero_le _, rfl, rfl, ⟨rfl, Nat.le_refl _, fun j hj => absurd hj (Nat.not_lt_zero _), fun _ _ => rfl⟩, fun j hj => absurd hj (Nat.not_lt_zero _), HR.out, hown, hb⟩
    case round =>
      clear hown hb
      obtain ⟨k, acc, xs, hk, rfl, rfl, hrow, hy64', hN, hown, hb⟩ := hrel
      have HY64 := Lib.hid hy64'
      clear hy64'
      have hsl : s.length = l.length := HLS.out
      have hxl : xs.length = l.length := by rw [hrow.1, hsl]
      have hak := hrow.2.1
      by_cases hlt : k < l.length
      · have d1 := cell_of hown (j := k) (by omega)
        rw [hrow.2.2.2 k (Nat.le_refl _)] at d1
        have hx64 := hs64 _ (mem_getD (l := s) (k := k) (by omega))
        have HN := Lib.hid hN
        have HROW := Lib.hid hrow
        have HXL := Lib.hid hxl
        have HSL := Lib.hid hsl
        have HZ := Lib.hid (fun h0 => normGo_zero (acc := acc) (s := s) (k := k) (by omega) h0)
        have HF := Lib.hid (fun h0 ha => normGo_first (acc := acc) (s := s) (k := k) (by omega) h0 ha)
        have HS := Lib.hid (fun h0 ha he => normGo_same (acc := acc) (s := s) (k := k) (by omega) h0 ha he)
        have HI := Lib.hid (fun h0 ha he hv => normGo_fail (acc := acc) (s := s) (k := k) (by omega) h0 ha he hv)
        have HP := Lib.hid (fun h0 ha hv => normGo_push (acc := acc) (s := s) (k := k) (by omega) h0 ha hv)
        clear hN hxl hsl hs64
        generalize s.getD k 0 = x at d1 hx64 HZ HF HS HI HP
        by_cases hx0 : x = 0
        · have hb0 : (x == 0) = true := by simp [hx0]
          have HX0 := Lib.hid hx0
          clear hx0 hrow
          go_wp2
          go_roundw
          case rel => exact ⟨k + 1, acc, xs, by omega, by go_num, rfl, HROW.out.skip, HY64.out, by rw [HN.out, HZ.out HX0.out], hown, hb⟩
          case measure => simp [intOf]; omega
        · have hb0 : (x == 0) = false := by simp [hx0]
          by_cases ha : 0 < acc.length
          · have dl := cell_of hown (j := acc.length - 1) (by have := HXL.out; omega)
            rw [hrow.2.2.1 _ (by omega)] at dl
            have hy64 := HY64.out (acc.length - 1) (by omega)
            generalize acc.getD (acc.length - 1) 0 = y at dl HS HI HP hy64
            by_cases hyx : y = x
            · have hb1 : (y == x) = true := by simp [hyx]
              have HYX := Lib.hid hyx
              clear hyx hrow
              go_wp2
              go_roundw
              case rel => exact ⟨k + 1, acc, xs, by omega, by go_num, rfl, HROW.out.skip, HY64.out, by rw [HN.out, HS.out hx0 ha HYX.out], hown, hb⟩
              case measure => simp [intOf]; omega
            · have hb1 : (y == x) = false := by simp [hyx]
              by_cases hvv : av y = av x
              · have hb2 : (av y == av x) = true := by simp [hvv]
                have HV := Lib.hid hvv
                clear hvv hrow
                go_wp2_with (go_at_call 35; refine (variable_any _ (by assumption) _).mono ?_; rintro e w' ⟨rfl, rfl⟩)
                go_ret2
                have hn : normR l = none := by rw [HN.out, HI.out hx0 ha hyx HV.out]
                rw [hn]
                exact ⟨_, rfl, ⟨none, 0, rfl, Nat.le_refl _, by simp, fun h => by simp at h⟩, hb, TypedI.none _⟩
              · have hb2 : (av y == av x) = false := by simp [hvv]
                have dS := cell_of hown (j := acc.length) (by have := HXL.out; omega)
                have fS := hown.frozenAt acc.length
                generalize xs.getD acc.length 0 = z at dS
                have PO := Lib.hid (push_own (x := x) hrow (by have := HSL.out; omega) hgB hown hb)
                have HROW2 := Lib.hid (fun (j : Nat) (hj : j < (acc ++ [x]).length) => (by
                  by_cases hj2 : j = acc.length
                  · subst hj2; rw [getD_snoc_same]; exact hx64
                  · have : j < acc.length := by simp at hj; omega
                    rw [getD_snoc_other this]; exact HY64.out j this : I64 ((acc ++ [x]).getD j 0)))
                clear hrow hown hb
                go_wp2_with (go_at_call 35; refine (variable_any _ (by assumption) _).mono ?_; rintro e w' ⟨rfl, rfl⟩)
                go_roundw
                case rel => exact ⟨k + 1, acc ++ [x], xs.set acc.length x, by omega, by go_num, by simp, PO.out.1, HROW2.out, by rw [HN.out, HP.out hx0 ha hvv], PO.out.2.1, PO.out.2.2⟩
                case measure => simp [intOf]; omega
          · have ha0 : acc.length = 0 := by omega
            have HA0 := Lib.hid ha0
            clear ha0
            have dS := cell_of hown (j := acc.length) (by have := HXL.out; omega)
            have fS := hown.frozenAt acc.length
            generalize xs.getD acc.length 0 = z at dS
            have PO := Lib.hid (push_own (x := x) hrow (by have := HSL.out; omega) hgB hown hb)
            have HROW2 := Lib.hid (fun (j : Nat) (hj : j < (acc ++ [x]).length) => (by
              by_cases hj2 : j = acc.length
              · subst hj2; rw [getD_snoc_same]; exact hx64
              · have : j < acc.length := by simp at hj; omega
                rw [getD_snoc_other this]; exact HY64.out j this : I64 ((acc ++ [x]).getD j 0)))
            clear hrow hown hb
            go_wp2
            go_roundw
            case rel => exact ⟨k + 1, acc ++ [x], xs.set acc.length x, by omega, by go_num, by simp, PO.out.1, HROW2.out, by rw [HN.out, HF.out hx0 HA0.out], PO.out.2.1, PO.out.2.2⟩
            case measure => simp [intOf]; omega
      · have hkl : k = l.length := by omega
        subst hkl
        have hac : acc.length ≤ cap := by omega
        have hnr : normR l = some acc := by
          rw [hN, List.drop_of_length_le (by omega), normGo]
        have HNR := Lib.hid hnr
        have HROW := Lib.hid hrow
        clear hnr hN hrow
        go_wp2
        go_outline
        go_ret2
        rw [HNR.out]
        refine ⟨_, rfl, ⟨some ⟨g, 0, none⟩, acc.length, rfl, Nat.le_refl _, ?_, fun _ => ⟨g, 0, rfl, fun j hj => ?_⟩⟩, hb, TypedI.of_owns hown⟩
        · show acc.length * 8 ≤ _; omega
        · have hj' : j < acc.length := hj
          rw [Nat.zero_add, cell_of hown (by omega), HROW.out.2.2.1 j hj']; rfl
end L
end Go.Proofs.Ytbmpjglplmnlnaa
