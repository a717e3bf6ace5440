/- The walk of the reference's Parse. -/
import Derived.Test.YtlkhabdpancjjaaDoorJRN
import Derived.Test.YtlkhabdpancjjaaDoorQ12
namespace Go.Proofs.YtlkhabdpancjjaaDoor
open Go.RowKit PA RA
namespace L
open K

theorem res_cell3 {fn : Func} {t u v : Tmp} {T : TypeId} (h : fn.results = #[.cell t T, .tmp u, .tmp v]) {tmps : Array Value} {P : Program} {w : World} {a : Addr} {x : Value} (ht : tmps.getD t undef = .pointer (some a)) (hl : (loadVar T a).run P w = .ok x w) : (results fn tmps).run P w = .ok (.tuple #[x, tmps.getD u undef, tmps.getD v undef]) w := by
  have ht' : tmps[t]?.getD undef = .pointer (some a) := by simpa using ht
  simp [results, h, ht', hl, asAddr]
theorem infoRow : (Tryd.prog.info? 34).map (fun i => (i.zero, i.size, i.bytes)) = some (some (.slice none 0 0), 1, 24) := by kernel_rfl
theorem infoNum : (Tryd.prog.info? 3).map (fun i => (i.zero, i.size, i.bytes)) = some (some (.int .i64 0), 1, 8) := by kernel_rfl
/-- A line of the lines. -/
theorem RMem.line {w W : World} {h : Nat} {lv cv u : Value} {LL : List (List ByteArray)} {r : RS} (m : RMem w W h lv cv u LL r) {k : Nat} (hk : k < LL.length) :
    ∃ g c b n, lv = .slice (some ⟨g, 0, none⟩) LL.length c ∧ W.cell? ⟨g, k, none⟩ = some (.slice b (LL.getD k []).length n) ∧ StrsR W (.slice b (LL.getD k []).length n) (LL.getD k []) := by
  obtain ⟨hh, us, h1, h2, h3⟩ := m.lines
  obtain ⟨g, c, rfl, _, _⟩ := owns_form h2 (by omega)
  have hc := h2.cellAt k (by omega)
  have hu := (h3 k hk).1
  have he : us[k]? = some (us.getD k (.slice none 0 0)) := by simp [List.getD, show k < us.length by omega]
  rw [he] at hc
  generalize us.getD k (.slice none 0 0) = x at *
  generalize LL.getD k [] = ws at *
  rcases hu.2 with ⟨rfl, h0⟩ | ⟨b, n, cur, rfl, _, _, hn, _⟩
  · have : ws = [] := List.eq_nil_of_length_eq_zero h0
    subst this
    exact ⟨g, c, none, 0, rfl, by simpa using hc, none, 0, rfl, Nat.le_refl _, fun h => absurd h (Nat.lt_irrefl _)⟩
  · refine ⟨g, c, some ⟨b, 0, none⟩, n, rfl, by simpa using hc, some ⟨b, 0, none⟩, n, rfl, hn, fun _ => ⟨b, 0, rfl, fun j hj => ?_⟩⟩
    have hq := hu.cellAt j (by omega)
    rw [Nat.zero_add, hq]
    simp [List.getD, hj]

theorem mem_getDX {LL : List (List ByteArray)} {k : Nat} (h : k < LL.length) : LL.getD k [] ∈ LL := by simp [List.getD, h]
theorem StrsR.below {W W' : World} {v : Value} {ws : List ByteArray} (h : StrsR W v ws) (hb : Below W.heap.size W W') : StrsR W' v ws := by
  obtain ⟨p, c, h1, h2, h3⟩ := h
  refine ⟨p, c, h1, h2, fun h0 => ?_⟩
  obtain ⟨b, o, h4, h5⟩ := h3 h0
  exact ⟨b, o, h4, fun j hj => (hb.cell (World.block_lt_of_cell? _ _ (h5 j hj))).trans (h5 j hj)⟩
theorem RMem.res {w W : World} {h : Nat} {lv cv u : Value} {LL : List (List ByteArray)} {r : RS} (m : RMem w W h lv cv u LL r) (a b : Value) :
    Below w.heap.size w ((W.setCell ⟨w.heap.size, 0, none⟩ a).setCell ⟨w.heap.size, 1, none⟩ b) ∧ OwnL ((W.setCell ⟨w.heap.size, 0, none⟩ a).setCell ⟨w.heap.size, 1, none⟩ b) w.heap.size cv r.cls :=
  ⟨(m.below.setCell (Nat.le_refl _) _).setCell (Nat.le_refl _) _, ((m.cls.far (set_grown W w.heap.size 0 a) fun e he => box_as m.out (by rcases he with rfl | rfl <;> decide)).far (set_grown _ w.heap.size 1 b) fun e he => box_as (m.out.set 0 a) (by rcases he with rfl | rfl <;> decide)).own⟩
theorem wgo_each : ∀ (l cur : List UInt8), ∀ a ∈ wgo cur l, a.length ≤ cur.length + l.length
  | [], cur, a, h => by
    unfold wgo at h
    by_cases hc : cur = []
    · rw [if_pos hc] at h; cases h
    · rw [if_neg hc] at h; simp at h; subst h; simp
  | b :: r, cur, a, h => by
    unfold wgo at h
    by_cases hb : sepB b = true
    · rw [if_pos hb] at h
      by_cases hc : cur = []
      · rw [if_pos hc] at h
        have := wgo_each r [] a h
        simp at this ⊢; omega
      · rw [if_neg hc] at h
        rcases List.mem_cons.1 h with rfl | h
        · simp
        · have := wgo_each r [] a h
          simp at this ⊢; omega
    · rw [if_neg hb] at h
      have := wgo_each r _ a h
      simp at this ⊢; omega
/-- Lines and words are short. -/
theorem lines_short {s : ByteArray} {LL : List (List ByteArray)} (h : lstL LL = goL s.data.toList [] [] true) : ∀ ws ∈ LL, (∀ a ∈ ws, a.size ≤ s.size) ∧ ws.length ≤ s.size + 1 := by
  intro ws hws
  have h1 : lstR ws ∈ lstL LL := List.mem_map_of_mem hws
  rw [h, goL_lns] at h1
  obtain ⟨t, ht, he⟩ := List.mem_map.1 h1
  have hl := line_len ht
  rw [← Lib.size_eq] at hl
  refine ⟨fun a ha => ?_, ?_⟩
  · have h2 : a.data.toList ∈ words t := by rw [he]; exact List.mem_map_of_mem ha
    have := wgo_each t [] _ h2
    rw [Lib.size_eq]
    simp at this
    simp
    omega
  · have := words_len t
    rw [he] at this
    simp [lstR] at this
    omega
theorem addS_line (r : RS) (w : List UInt8) : (addS r w).1.line = r.line := by
  unfold addS
  repeat' split
  all_goals rfl
theorem wordsS_line (ws : List (List UInt8)) : ∀ r : RS, (wordsS r ws).1.line = r.line := by
  induction ws with
  | nil => intro r; rfl
  | cons w ws ih =>
    intro r
    unfold wordsS
    split
    · rw [ih, addS_line]
    · exact addS_line r w
theorem takeS_line (r : RS) (ws : List (List UInt8)) : (takeS r ws).1.line = r.line := by
  unfold takeS
  split
  · exact wordsS_line ws r
  · unfold beginS
    split <;> rfl
/-- An error of a line ends the reading. -/
theorem stop_ends {L : List (List (List UInt8))} {k : Nat} {r : RS} (a : RAt L k r) (hk : k < L.length) (h : ¬ (L.getD k [] = [] ∨ (L.getD k []).head? = some [99])) {e : Int} (he : (takeS { r with line := (k : Int) + 1 } (L.getD k [])).2 = e) (h0 : e ≠ 0) :
    (if (endS (readR PA.start 0 L) L.length).first = 0 then ((endS (readR PA.start 0 L) L.length).vars, (endS (readR PA.start 0 L) L.length).cls, (0 : Int), (0 : Int)) else (0, [], (endS (readR PA.start 0 L) L.length).line, (endS (readR PA.start 0 L) L.length).first)) = (0, [], (k : Int) + 1, e) := by
  subst he
  rw [a.stop hk h h0]
  have hf : (lineS r ((k : Int) + 1, L.getD k [])).first = (takeS { r with line := (k : Int) + 1 } (L.getD k [])).2 := rfl
  have hl : (lineS r ((k : Int) + 1, L.getD k [])).line = (k : Int) + 1 := takeS_line _ _
  have hes : endS (lineS r ((k : Int) + 1, L.getD k [])) L.length = lineS r ((k : Int) + 1, L.getD k []) := by
    unfold endS
    rw [if_neg (fun h => h0 (hf ▸ h.1))]
  rw [hes, if_neg (by rw [hf]; exact h0), hl, hf]

set_option maxRecDepth 100000 in
set_option maxHeartbeats 8000000 in
theorem rparse_any (s : ByteArray) (w : World) (hs : s.size ≤ 9223372036854775807) :
    Calls Tryd.prog 16 #[.string s] w (ParseEnd w (parseS s.data.toList)) := by
  obtain ⟨x, hx⟩ : ∃ x, parseS s.data.toList = x := ⟨_, rfl⟩
  rw [hx]
  unfold parseS at hx
  rw [runR_eq, ← Lib.size_eq] at hx
  by_cases hbig : 65536 < s.size
  · rw [if_pos hbig, if_neg (by show ¬ (5 : Int) = 0; decide)] at hx
    subst hx
    go_enter Tryd.func16, Tryd.ntmps16
    go_wp2
    (try simp only [Exit.inBlock, Exit.then])
    refine bodyPost_ret (res_cell3 rfl rfl (by simp [go_sem]; rfl)) rfl ?_
    exact ⟨_, w.heap.size, rfl, (Below.refl _ _).alloc (Nat.le_refl _) _, Nat.le_refl _, OwnL.nil _ _⟩
  · rw [if_neg hbig] at hx
    have HX := Lib.hid hx
    clear hx
    go_enter Tryd.func16, Tryd.ntmps16
    go_wp2_with (go_at_call 27; refine (rlines_any s _ (by omega)).mono ?_; rintro e W1 ⟨lv, LL, rfl, hSS, hLL, hlen, hbel⟩)
    obtain ⟨i34, hi34, hz340, hz341, hz342⟩ := info_parts infoRow
    obtain ⟨i3, hi3, hz30, hz31, hz32⟩ := info_parts infoNum
    have hm : RMem w W1 W1.heap.size lv (.slice none 0 0) (.slice none 0 0) LL PA.start := by
      obtain ⟨us, h1, h2, h3⟩ := hSS
      refine ⟨(((Below.refl _ _).alloc (Nat.le_refl _) _).alloc (by simp) _).trans (hbel.mono (by simp; omega)), ((Box.new w _ _).alloc _).below hbel (by simp; omega), (Box.at _ _ _ (by simp)).below hbel (by simp), ⟨_, us, h1, owns_base h2 (by simp; omega), fun j hj => ⟨owns_base (h3 j hj).1 (by simp; omega), (h3 j hj).2⟩⟩, OwnLH.nil _ _ _, OwnI.nil _ _, ?_, Nat.le_refl _⟩
      have := hbel.size
      simp at this
      omega
    rw [← hLL] at HX
    have HSH := Lib.hid (lines_short hLL)
    have HM := Lib.hid hm
    have hll : LL.length ≤ 65537 := by omega
    clear hSS hbel hm hlen
    obtain ⟨pl, cl, rfl⟩ : ∃ pl cl, lv = .slice pl LL.length cl := by
      obtain ⟨hh, us, h1, h2, h3⟩ := HM.out.lines
      exact owns_shape h2
    go_loopw [6, 7, 8, 10] (fun cv bv nv iv wr => ∃ (k h : Nat) (r : RS) (fv : Value), k ≤ LL.length ∧ iv = .int .i64 k ∧ bv = .bool r.header ∧ nv = .int .i64 (r.left + r.cls.length) ∧ RMem w wr h (.slice pl LL.length cl) fv cv LL r ∧ RAt (lstL LL) k r ∧ (r.header = false → r.left = 0)) (fun _ _ _ iv _ => LL.length - (intOf iv).toNat)
    case atStart => exact ⟨0, W1.heap.size, PA.start, _, Nat.zero_le _, rfl, rfl, rfl, HM.out, rat_start _, fun _ => rfl⟩
    case round =>
      obtain ⟨k, h, r, fv, hk, rfl, rfl, rfl, hm, hat, hl0⟩ := hrel
      clear HM
      have HM := Lib.hid hm
      have HAT := Lib.hid hat
      have HL0 := Lib.hid hl0
      clear hm hat hl0
      by_cases hlt : k < LL.length
      · obtain ⟨g, c, b, n, hlv, hcell, hstr⟩ := HM.out.line hlt
        injection hlv with h1 h2 h3
        subst h1
        subst h3
        clear h2
        have hgd : (lstL LL).getD k [] = lstR (LL.getD k []) := by simp [lstL, List.getD, hlt, lstR]
        have HGD := Lib.hid hgd
        have hlk : k < (lstL LL).length := by simpa [lstL] using hlt
        have HLK := Lib.hid hlk
        clear hgd hlk
        generalize hws : LL.getD k [] = ws at *
        have HWS := Lib.hid hws
        clear hws
        have HSTR := Lib.hid hstr
        clear hstr
        by_cases hw0 : ws.length = 0
        · have hwe : ws = [] := List.eq_nil_of_length_eq_zero hw0
          have e0 : ((ws.length : Int) == 0) = true := by rw [hw0]; rfl
          have HWE := Lib.hid hwe
          clear hwe
          go_wp2
          go_roundw
          case rel => exact ⟨k + 1, h, r, fv, by omega, by go_num, rfl, rfl, HM.out, HAT.out.skip HLK.out (.inl (by rw [HGD.out, HWE.out]; rfl)), HL0.out⟩
          case measure => simp [intOf]; omega
        · have e0 : ((ws.length : Int) == 0) = false := beq_eq_false_iff_ne.2 (by omega)
          obtain ⟨p0, c0, hp0, hpc, hpp⟩ := HSTR.out
          obtain ⟨b0, o0, rfl, hce⟩ := hpp (by omega)
          injection hp0 with q1 q2 q3
          subst q1
          subst q3
          have hc0 := hce 0 (by omega)
          have HCE := Lib.hid hce
          rw [Nat.add_zero] at hc0
          clear hce hpp q2
          by_cases h99 : (ws.getD 0 ByteArray.empty).data.toList = [99]
          · have e9 : ((ws.getD 0 ByteArray.empty).toList == [99]) = true := by rw [eq_strR]; simpa using h99
            have e9' : (ws.getD 0 ByteArray.empty).toList = [99] := by simpa using e9
            have hhd : (lstR ws).head? = some [99] := by
              cases ws with
              | nil => exact absurd rfl hw0
              | cons a t => simp [lstR]; simpa using h99
            have HHD := Lib.hid hhd
            clear hhd h99
            generalize ws.getD 0 ByteArray.empty = w0 at *
            go_wp2
            go_roundw
            case rel => exact ⟨k + 1, h, r, fv, by omega, by go_num, rfl, rfl, HM.out, HAT.out.skip HLK.out (.inr (by rw [HGD.out]; exact HHD.out)), HL0.out⟩
            case measure => simp [intOf]; omega
          · have e9 : ((ws.getD 0 ByteArray.empty).toList == [99]) = false := by rw [eq_strR]; simpa using h99
            have e9' : ¬ (ws.getD 0 ByteArray.empty).toList = [99] := by simpa using e9
            have hno : ¬ ((lstL LL).getD k [] = [] ∨ ((lstL LL).getD k []).head? = some [99]) := by
              rw [HGD.out]
              cases ws with
              | nil => exact absurd rfl hw0
              | cons a t => simp [lstR]; simpa using h99
            have HNO := Lib.hid hno
            clear hno h99
            generalize hw0' : ws.getD 0 ByteArray.empty = w0 at *
            have HW0 := Lib.hid hw0'
            clear hw0'
            have hx00 := HM.out.out.cell 0
            have hx01 := HM.out.out.cell 1
            have hf00 := HM.out.out.frozen 0
            have hf01 := HM.out.out.frozen 1
            have hx10 := HM.out.form.cell 0
            have hf10 := HM.out.form.frozen 0
            simp only [List.getElem?_toArray, List.getElem?_cons_zero, List.getElem?_cons_succ] at hx00 hx01 hx10
            have hmem : ws ∈ LL := by rw [← HWS.out]; exact mem_getDX hlt
            have hsh := HSH.out ws hmem
            have HWZ := Lib.hid (show ∀ a ∈ ws, a.size ≤ 9223372036854775807 from fun a ha => by have := hsh.1 a ha; omega)
            have hwl : ws.length ≤ 65537 := by omega
            clear hmem hsh
            by_cases hh : r.header = false
            · rw [hh]
              have hck := fun W' (hW : Below wr.heap.size wr W') => rheader_any (.slice (some ⟨b0, o0, none⟩) ws.length n) ws W' HWZ.out (HSTR.out.below hW) (by omega)
              obtain ⟨y1, y2, y3, hy⟩ : ∃ y1 y2 y3, headR (lstR ws) = (y1, y2, y3) := ⟨_, _, _, rfl⟩
              rw [hy] at hck
              have hts : takeS { r with line := (k : Int) + 1 } ((lstL LL).getD k []) = if y3 = 0 then ({ r with line := (k : Int) + 1, header := true, vars := y1, left := y2 }, 0) else ({ r with line := (k : Int) + 1 }, y3) := by
                rw [HGD.out]
                unfold takeS beginS
                rw [if_neg (by rw [hh]; decide), ← headR_eq, hy]
              have HTS := Lib.hid hts
              have HC := Lib.hid hck
              have HH := Lib.hid hh
              clear hts hck hy hh
              by_cases hy3 : y3 = 0
              · subst hy3
                go_wp2_with (go_at_call 28; refine (HC.out _ (by first | exact Below.refl _ _ | exact below_drewN (Below.refl _ _) _)).mono ?_; rintro e W2 ⟨rfl, rfl⟩)
                go_roundw
                case rel =>
                  have hls : lineS r ((k : Int) + 1, (lstL LL).getD k []) = { r with line := (k : Int) + 1, header := true, vars := y1, left := y2, first := 0 } := by
                    unfold lineS
                    rw [HTS.out]; simp
                  have hra := HAT.out.line HLK.out HNO.out (by rw [HTS.out]; simp)
                  rw [hls] at hra
                  refine ⟨k + 1, h, { r with line := (k : Int) + 1, header := true, vars := y1, left := y2, first := 0 }, fv, by omega, by go_num, rfl, ?_, HM.out.head y1 rfl rfl rfl, hra, fun e => by cases e⟩
                  rw [HAT.out.1.h0 HH.out]; simp
                case measure => simp [intOf]; omega
              · have hy3' : (y3 != 0) = true := by simpa using hy3
                have HXE := Lib.hid (stop_ends HAT.out HLK.out HNO.out (e := y3) (by rw [HTS.out, if_neg hy3]) hy3)
                go_wp2_with (go_at_call 28; refine (HC.out _ (by first | exact Below.refl _ _ | exact below_drewN (Below.refl _ _) _)).mono ?_; rintro e W2 ⟨rfl, rfl⟩)
                (try simp only [Exit.inBlock, Exit.then])
                refine bodyPost_ret (res_cell3 rfl rfl (by simp [go_sem, *]; rfl)) rfl ?_
                rw [HX.out.symm.trans HXE.out]
                exact ⟨_, w.heap.size, rfl, (HM.out.res _ _).1, Nat.le_refl _, OwnL.nil _ _⟩
            · have hh' : r.header = true := by simpa using hh
              have hts : takeS { r with line := (k : Int) + 1 } ((lstL LL).getD k []) = wordsS { r with line := (k : Int) + 1 } (lstR ws) := by
                rw [HGD.out]; unfold takeS; rw [if_pos hh']
              have hwf := HAT.out.1
              have hwf1 : Wf { r with line := (k : Int) + 1 } := ⟨hwf.v0, hwf.v1, hwf.l0, hwf.l1, hwf.c1, hwf.h0⟩
              have HTS := Lib.hid hts
              have HW1 := Lib.hid (wat_start hwf1 hh' (lstR ws))
              rw [hh']
              clear hts hwf hwf1 hh hh'
              obtain ⟨wo, hwo⟩ : ∃ W, W = wr := ⟨_, rfl⟩
              subst hwo
              go_wp2
              clear hcell hc0 hx00 hx01 hf00 hf01 hx10 hf10 HCE HSTR e0 e9 e9'
              go_loopw [6, 14] (fun cv jv wi => ∃ (j h' : Nat) (r' : RS) (fv' : Value), j ≤ ws.length ∧ jv = .int .i64 j ∧ RMem w wi h' (.slice (some ⟨g, 0, none⟩) LL.length cl) fv' cv LL r' ∧ WAt { r with line := (k : Int) + 1 } (lstR ws) j r' ∧ r'.left + r'.cls.length = r.left + r.cls.length) (fun _ jv _ => ws.length - (intOf jv).toNat)
              case atStart => exact ⟨0, h, { r with line := (k : Int) + 1 }, fv, Nat.zero_le _, rfl, HM.out.same rfl rfl rfl, HW1.out, rfl⟩
              case round =>
                obtain ⟨j, h', r', fv', hj, rfl, hm', hwat, hsum⟩ := hrel
                clear HM HW1
                obtain ⟨pk, ck, rfl⟩ := owns_shape hm'.cur
                obtain ⟨pf, cf, rfl⟩ : ∃ pf cf, fv' = .slice pf r'.cls.length cf := by
                  obtain ⟨us, h1, h2, h3⟩ := hm'.cls
                  exact owns_shape h2
                obtain ⟨g2, c2, b2, n2, hlv2, hcell2, hstr2⟩ := hm'.line hlt
                injection hlv2 with h1 h2 h3
                injection h1 with h1
                injection h1 with h1 _ _
                subst h1
                subst h3
                clear h2
                rw [HWS.out] at hcell2 hstr2
                have hwf := hwat.1
                have hv0 := hwf.v0
                have hv1 := hwf.v1
                have hl0 := hwf.l0
                have hl1 := hwf.l1
                have hc1 := hwf.c1
                have hx00 := hm'.out.cell 0
                have hx01 := hm'.out.cell 1
                have hf00 := hm'.out.frozen 0
                have hf01 := hm'.out.frozen 1
                have hx10 := hm'.form.cell 0
                have hx11 := hm'.form.cell 1
                have hf11 := hm'.form.frozen 1
                simp only [List.getElem?_toArray, List.getElem?_cons_zero, List.getElem?_cons_succ] at hx00 hx01 hx10 hx11
                have HM := Lib.hid hm'
                have HWAT := Lib.hid hwat
                clear hm' hwat hwf
                by_cases hjl : j < ws.length
                · obtain ⟨p2, c3, hp2, hpc2, hpp2⟩ := hstr2
                  obtain ⟨b3, o3, rfl, hce2⟩ := hpp2 (by omega)
                  injection hp2 with q1 q2 q3
                  subst q1
                  subst q3
                  have hcj := hce2 j hjl
                  clear hpp2 hce2 q2
                  have hwz : (ws.getD j ByteArray.empty).size ≤ 9223372036854775807 := HWZ.out _ (by simp [List.getD, hjl])
                  have hgj : (lstR ws).getD j [] = (ws.getD j ByteArray.empty).data.toList := by simp [lstR, List.getD, hjl]
                  generalize ws.getD j ByteArray.empty = wj at *
                  have hck := fun W' => rnumber_any wj W' hwz
                  obtain ⟨v, is, hv⟩ : ∃ v is, numM 1099511627776 wj.data.toList = (v, is) := ⟨_, _, rfl⟩
                  rw [hv] at hck
                  have har : addR r' ((lstR ws).getD j []) = if r'.left = 0 ∨ is = false then (r', 4) else if r'.vars < v ∨ v < -r'.vars then (r', 3) else if v = 0 then ({ r' with cls := r'.cls ++ [r'.cur], cur := [], left := r'.left - 1 }, 0) else if r'.cur.length = 4096 then (r', 5) else ({ r' with cur := r'.cur ++ [v] }, 0) := by
                    rw [hgj]
                    unfold addR numR
                    rw [hv]
                  have HAR := Lib.hid har
                  have HC := Lib.hid hck
                  have hjr : j < (lstR ws).length := by simpa [lstR] using hjl
                  have HJR := Lib.hid hjr
                  clear har hck hv hgj hwz hjr
                  have hneg : IntKind.i64.wrap (-r'.vars) = -r'.vars := IntWalk.i64_in _ (by omega)
                  have serr : Hid (∀ e : Int, e ≠ 0 → addR r' ((lstR ws).getD j []) = (r', e) → x = (0, [], (k : Int) + 1, e)) := Lib.hid fun e he0 hae => HX.out.symm.trans (stop_ends HAT.out HLK.out HNO.out (e := e) (by
                    rw [HTS.out]
                    have := HWAT.out.stop HJR.out (by rw [hae]; exact he0)
                    rw [hae] at this
                    exact this) he0)
                  by_cases hA : r'.left = 0
                  · have tA : ((r'.cls.length : Int) == r.left + r.cls.length) = true := by simp; omega
                    have HXE := Lib.hid (serr.out 4 (by decide) (by rw [HAR.out, if_pos (.inl hA)]))
                    go_wp2_with (go_at_call 29; refine (HC.out _).mono ?_; rintro e W2 ⟨rfl, rfl⟩)
                    (try simp only [Exit.inBlock, Exit.then])
                    refine bodyPost_ret (res_cell3 rfl rfl (by simp [go_sem, *]; rfl)) rfl ?_
                    rw [HXE.out]
                    exact ⟨_, w.heap.size, rfl, (HM.out.res _ _).1, Nat.le_refl _, OwnL.nil _ _⟩
                  have tA : ((r'.cls.length : Int) == r.left + r.cls.length) = false := beq_eq_false_iff_ne.2 (by omega)
                  cases is with
                  | false =>
                    have HXE := Lib.hid (serr.out 4 (by decide) (by rw [HAR.out, if_pos (.inr rfl)]))
                    go_wp2_with (go_at_call 29; refine (HC.out _).mono ?_; rintro e W2 ⟨rfl, rfl⟩)
                    (try simp only [Exit.inBlock, Exit.then])
                    refine bodyPost_ret (res_cell3 rfl rfl (by simp [go_sem, *]; rfl)) rfl ?_
                    rw [HXE.out]
                    exact ⟨_, w.heap.size, rfl, (HM.out.res _ _).1, Nat.le_refl _, OwnL.nil _ _⟩
                  | true =>
                    have hA' : ¬ (r'.left = 0 ∨ true = false) := by simpa using hA
                    by_cases hB : r'.vars < v
                    · have HXE := Lib.hid (serr.out 3 (by decide) (by rw [HAR.out, if_neg hA', if_pos (.inl hB)]))
                      go_wp2_with (go_at_call 29; refine (HC.out _).mono ?_; rintro e W2 ⟨rfl, rfl⟩)
                      (try simp only [Exit.inBlock, Exit.then])
                      refine bodyPost_ret (res_cell3 rfl rfl (by simp [go_sem, *]; rfl)) rfl ?_
                      rw [HXE.out]
                      exact ⟨_, w.heap.size, rfl, (HM.out.res _ _).1, Nat.le_refl _, OwnL.nil _ _⟩
                    by_cases hB2 : v < -r'.vars
                    · have HXE := Lib.hid (serr.out 3 (by decide) (by rw [HAR.out, if_neg hA', if_pos (.inr hB2)]))
                      go_wp2_with (go_at_call 29; refine (HC.out _).mono ?_; rintro e W2 ⟨rfl, rfl⟩)
                      (try simp only [Exit.inBlock, Exit.then])
                      refine bodyPost_ret (res_cell3 rfl rfl (by simp [go_sem, *]; rfl)) rfl ?_
                      rw [HXE.out]
                      exact ⟨_, w.heap.size, rfl, (HM.out.res _ _).1, Nat.le_refl _, OwnL.nil _ _⟩
                    have hB3 : ¬ (r'.vars < v ∨ v < -r'.vars) := fun h => h.elim hB hB2
                    by_cases hz : v = 0
                    · subst hz
                      have har2 : addR r' ((lstR ws).getD j []) = ({ r' with cls := r'.cls ++ [r'.cur], cur := [], left := r'.left - 1 }, 0) := by rw [HAR.out, if_neg hA', if_neg hB3, if_pos rfl]
                      have hnx := HWAT.out.next HJR.out (by rw [har2])
                      rw [har2] at hnx
                      have HNX := Lib.hid hnx
                      clear har2 hnx
                      obtain ⟨us, g1, g2', g3⟩ := (HM.out.alloc (.cells #[.slice pk r'.cur.length ck] 34)).cls
                      go_wp2_with (first | (go_at_call 29; refine (HC.out _).mono ?_; rintro e W2 ⟨rfl, rfl⟩) | (at_builtin; refine wpList_append_own _ rfl _ _ 22 rfl w.heap.size 34 i34 (.slice none 0 0) 1 24 Tryd.underlying22 hi34 hz340 hz341 hz342 rfl (by decide) _ r'.cls.length us rfl g2' ⟨wr.heap.size, 0, none⟩ 1 1 [.slice pk r'.cur.length ck] rfl rfl ?d1 ?d2 ?d3 ?d4 ?d5 ?_))
                      case d1 =>
                        intro j u hj
                        match j, hj with
                        | 0, hj => simp at hj; subst hj; exact cell_new (by simp) rfl
                      case d2 => intro u hu; simp at hu; subst hu; rfl
                      case d3 => unfold maxLen; omega
                      case d4 => omega
                      case d5 => simp; have := HM.out.below.size; omega
                      intro v3 w3 hown3 hgrow3 _
                      obtain ⟨g5, cap5, rfl, _, _⟩ := owns_form hown3 (by omega)
                      have hbx := box_far (HM.out.alloc (.cells #[.slice pk r'.cur.length ck] 34)).form hgrow3 (typed_as g2' (by decide))
                      have k11 := hbx.cell 1
                      have k11f := hbx.frozen 1
                      simp only [List.getElem?_toArray, List.getElem?_cons_zero, List.getElem?_cons_succ] at k11
                      have HM3 := Lib.hid ((HM.out.alloc (.cells #[.slice pk r'.cur.length ck] 34)).clause (r' := { r' with cls := r'.cls ++ [r'.cur], cur := [], left := r'.left - 1 }) g1 g2' g3 hgrow3 hown3 rfl rfl rfl)
                      clear g1 g2' g3 hgrow3 hown3 hbx
                      go_wp2
                      go_roundw
                      case rel => exact ⟨j + 1, w3.heap.size, { r' with cls := r'.cls ++ [r'.cur], cur := [], left := r'.left - 1 }, _, by omega, by go_num, HM3.out, HNX.out, by simp; omega⟩
                      case measure => simp [intOf]; omega
                    · by_cases hL : r'.cur.length = 4096
                      · have hL' : ((r'.cur.length : Int) == 4096) = true := by simp; omega
                        have hz' : (v == 0) = false := beq_eq_false_iff_ne.2 hz
                        have HXE := Lib.hid (serr.out 5 (by decide) (by rw [HAR.out, if_neg hA', if_neg hB3, if_neg hz, if_pos hL]))
                        go_wp2_with (go_at_call 29; refine (HC.out _).mono ?_; rintro e W2 ⟨rfl, rfl⟩)
                        (try simp only [Exit.inBlock, Exit.then])
                        refine bodyPost_ret (res_cell3 rfl rfl (by simp [go_sem, *]; rfl)) rfl ?_
                        rw [HXE.out]
                        exact ⟨_, w.heap.size, rfl, (HM.out.res _ _).1, Nat.le_refl _, OwnL.nil _ _⟩
                      · have hL' : ((r'.cur.length : Int) == 4096) = false := beq_eq_false_iff_ne.2 (by omega)
                        have hz' : (v == 0) = false := beq_eq_false_iff_ne.2 hz
                        have har2 : addR r' ((lstR ws).getD j []) = ({ r' with cur := r'.cur ++ [v] }, 0) := by rw [HAR.out, if_neg hA', if_neg hB3, if_neg hz, if_neg hL]
                        have hnx := HWAT.out.next HJR.out (by rw [har2])
                        rw [har2] at hnx
                        have HNX := Lib.hid hnx
                        clear har2 hnx
                        go_wp2_with (first | (go_at_call 29; refine (HC.out _).mono ?_; rintro e W2 ⟨rfl, rfl⟩) | (at_builtin; refine wpList_append_own _ rfl _ _ 34 rfl h' 3 i3 (.int .i64 0) 1 8 Tryd.underlying34 hi3 hz30 hz31 hz32 rfl (by decide) _ r'.cur.length (r'.cur.map (Value.int .i64)) rfl (World.ownsRow.alloc HM.out.cur _) ⟨wr.heap.size, 0, none⟩ 1 1 [.int .i64 v] rfl rfl ?c1 ?c2 ?c3 ?c4 ?c5 ?_))
                        case c1 =>
                          intro j u hj
                          match j, hj with
                          | 0, hj => simp at hj; subst hj; exact cell_new (by simp) rfl
                        case c2 => intro u hu; simp at hu; subst hu; rfl
                        case c3 => unfold maxLen; omega
                        case c4 => omega
                        case c5 => simp; have := HM.out.hi; omega
                        intro v3 w3 hown3 hgrow3 _
                        have hm3 := (HM.out.alloc (.cells #[.int .i64 v] 3)).word (r' := { r' with cur := r'.cur ++ [v] }) hgrow3 (by unfold OwnI; simpa using hown3) rfl rfl rfl
                        have HM3 := Lib.hid hm3
                        clear hm3 hgrow3 hown3
                        go_wp2
                        go_roundw
                        case rel => exact ⟨j + 1, h', { r' with cur := r'.cur ++ [v] }, _, by omega, by go_num, HM3.out, HNX.out, hsum⟩
                        case measure => simp [intOf]; omega
                · have hjj : j = ws.length := by omega
                  subst hjj
                  have hall := (show WAt { r with line := (k : Int) + 1 } (lstR ws) (lstR ws).length r' from by simpa [lstR] using HWAT.out).all
                  have hls : lineS r ((k : Int) + 1, (lstL LL).getD k []) = { r' with first := 0 } := by
                    unfold lineS
                    rw [HTS.out, hall]
                  have hra := HAT.out.line HLK.out HNO.out (by rw [HTS.out, hall])
                  rw [hls] at hra
                  have HRA := Lib.hid hra
                  clear hall hls hra
                  go_wp2
                  go_roundw
                  case rel => exact ⟨k + 1, h', { r' with first := 0 }, _, by omega, by go_num, by rw [HWAT.out.2.1], by rw [hsum], HM.out.same rfl rfl rfl, HRA.out, fun e => by rw [HWAT.out.2.1] at e; cases e⟩
                  case measure => simp [intOf]; omega
      · have hkk : k = LL.length := by omega
        subst hkk
        have hall : readR PA.start 0 (lstL LL) = r := (show RAt (lstL LL) (lstL LL).length r from by simpa [lstL] using HAT.out).all
        have hwf := HAT.out.1
        have hr0 := HAT.out.2.1
        have hwl := hwf.l1
        have hwl0 := hwf.l0
        have hx := HX.out
        rw [hall, show (lstL LL).length = LL.length by simp [lstL]] at hx
        have hx00 := HM.out.out.cell 0
        have hx01 := HM.out.out.cell 1
        have hf00 := HM.out.out.frozen 0
        have hf01 := HM.out.out.frozen 1
        have hx10 := HM.out.form.cell 0
        have hx11 := HM.out.form.cell 1
        have hf10 := HM.out.form.frozen 0
        simp only [List.getElem?_toArray, List.getElem?_cons_zero, List.getElem?_cons_succ] at hx00 hx01 hx10 hx11
        obtain ⟨pf, cf, rfl⟩ : ∃ pf cf, fv = .slice pf r.cls.length cf := by
          obtain ⟨us, h1, h2, h3⟩ := HM.out.cls
          exact owns_shape h2
        clear hall
        by_cases hbad : r.header = false ∨ 0 < r.left
        · have hes : endS r LL.length = { r with line := (LL.length : Int) + 1, first := 4 } := by unfold endS; rw [if_pos ⟨hr0, hbad⟩]
          rw [hes, if_neg (by show ¬ (4 : Int) = 0; decide)] at hx
          have HXX := Lib.hid hx
          clear hx hes
          by_cases hh : r.header = false
          · rw [hh]
            clear hbad hh
            go_wp2
            (try simp only [Exit.inBlock, Exit.then])
            refine bodyPost_ret (res_cell3 rfl rfl (by simp [go_sem, *]; rfl)) rfl ?_
            rw [← HXX.out]
            exact ⟨_, w.heap.size, rfl, (HM.out.res _ _).1, Nat.le_refl _, OwnL.nil _ _⟩
          · have hh' : r.header = true := by simpa using hh
            have hl : 0 < r.left := by rcases hbad with h | h; exact absurd h hh; exact h
            rw [hh']
            clear hbad hh hh'
            go_wp2
            (try simp only [Exit.inBlock, Exit.then])
            refine bodyPost_ret (res_cell3 rfl rfl (by simp [go_sem, *]; rfl)) rfl ?_
            rw [← HXX.out]
            exact ⟨_, w.heap.size, rfl, (HM.out.res _ _).1, Nat.le_refl _, OwnL.nil _ _⟩
        · have hes : endS r LL.length = r := by unfold endS; rw [if_neg (fun h => hbad h.2)]
          rw [hes, if_pos hr0] at hx
          have hh : r.header = true := by
            cases h : r.header with
            | true => rfl
            | false => exact absurd (.inl h) hbad
          have hl : ¬ 0 < r.left := fun h => hbad (.inr h)
          have HXX := Lib.hid hx
          rw [hh]
          clear hx hes hbad hh
          go_wp2
          (try simp only [Exit.inBlock, Exit.then])
          refine bodyPost_ret (res_cell3 rfl rfl (by simp [go_sem, *]; rfl)) rfl ?_
          rw [← HXX.out]
          exact ⟨_, w.heap.size, rfl, (HM.out.res _ _).1, Nat.le_refl _, (HM.out.res _ _).2⟩
end L
end Go.Proofs.YtlkhabdpancjjaaDoor
