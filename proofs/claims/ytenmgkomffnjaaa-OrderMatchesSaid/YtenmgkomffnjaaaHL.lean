/- The heap's New: the first part of start. -/
import Derived.Test.YtenmgkomffnjaaaHK
namespace Go.Proofs.Ytenmgkomffnjaaa
open Go.RowKit
namespace L
open K HP
set_option maxRecDepth 100000

set_option maxHeartbeats 4000000 in
theorem start_any (ga n : Nat) (w : World) (hn : n ≤ 1048576) (hga : ga < w.heap.size)
    (hown : w.ownsRow 0 57 2 (.slice (some ⟨ga, 0, none⟩) n n) n (vcells (List.replicate n 0))) :
    Calls Try.prog 29 #[.slice (some ⟨ga, 0, none⟩) n n, .func (.func 30) #[] #[]] w fun e w' =>
      ∃ (s : Spot) (lo hi : Nat) (R : List Nat) (Q : List Int), e = .returned (.agg #[.slice (some ⟨s.ga, 0, none⟩) n s.ca, .func (.func 30) #[] #[], .slice (some ⟨s.gt, 0, none⟩) R.length s.ct, .slice (some ⟨s.gp, 0, none⟩) n s.cp]) ∧
        Mem 60 lo hi w' s (List.replicate n 0) R Q ∧ HGood (List.replicate n 0) (fun x => x < n) R Q ∧ R.length = n ∧ s.ga = ga ∧ s.ct = n ∧ w.heap.size ≤ lo ∧ Below w.heap.size w w' := by
  obtain ⟨i3, hi3, hz30, hz31, hz32⟩ := info_parts info3
  have hmk : ∀ W : World, (Instr.makeSlice 45 (.int .i64 0) (.int .i64 (n : Int))).run Try.prog W = .ok (.slice (some ⟨W.heap.size, 0, none⟩) 0 n) (W.alloc (.cells (madeCells #[.int .i64 0] n) 3)) := fun W => by
    have hr := run_make (P := Try.prog) W 45 3 i3 (.int .i64 0) Try.underlying45 hi3 hz30 .i64 .i64 0 n (Int.le_refl _) (by omega) (by rw [hz32]; omega) (by omega)
    simpa [hz31, Value.cells] using hr
  go_enter Try.func29, Try.ntmps29
  go_wp2
  have hb0 : Below w.heap.size w (w.alloc (.cells #[.slice none 0 0, .nilFunc, .slice none 0 0, .slice none 0 0] 60)) := (Below.refl _ _).alloc (Nat.le_refl _) _
  have x0 : Box (w.alloc (.cells #[.slice none 0 0, .nilFunc, .slice none 0 0, .slice none 0 0] 60)) w.heap.size 60 #[.slice none 0 0, .nilFunc, .slice none 0 0, .slice none 0 0] := Box.new _ _ _
  have HG1 := Lib.hid (Nat.lt_of_lt_of_le hga hb0.size)
  have HG3 := Lib.hid (owns_below hown hb0 (Nat.le_refl _))
  have HX0 := Lib.hid x0
  have HB0 := Lib.hid hb0
  clear x0 hb0
  generalize w.alloc (.cells #[.slice none 0 0, .nilFunc, .slice none 0 0, .slice none 0 0] 60) = w0 at *
  go_cut [5] from 6 (fun v5 wc => Start n ga w0 wc v5)
  case first =>
    go_region_law (first
      | (go_simp
         go_at_call 37
         refine (repeat_any _ n _ hn ?_).mono ?_
         · rw [cell_drew]
           first
             | (rw [cell_at (by simp)]; rfl)
             | (rw [cell_past (by simp)]; rw [cell_at (by simp)]; rfl)
             | (rw [cell_past (by simp <;> omega)]; rw [cell_past (by simp)]; rw [cell_at (by simp)]; rfl)
         rintro e w3 ⟨g3, rfl, ho3, hb3⟩
         have hsz3 := hb3.size
         simp only [World.drew, World.size_alloc] at hsz3
         have hsa : w0.heap.size < w3.heap.size := by omega
         first
           | (have hsb : w0.heap.size + 1 + 1 < w3.heap.size := by omega
              have hsc : w0.heap.size + 1 < w3.heap.size := by omega)
           | (have hsb : w0.heap.size + 1 < w3.heap.size := by omega)
           | skip
         have hce3 := fun b j (hb : b < _) => hb3.cell (p := ⟨b, j, none⟩) hb
         have hfr3 := fun b j (hb : b < _) => hb3.frozen (p := ⟨b, j, none⟩) hb))
    all_goals clear hce3 hfr3
    all_goals go_wp2
    all_goals go_meet
    all_goals first
      | (with_reducible refine start_D hn HG1.out HG3.out hb3 ho3 ?_ <;> (first | with_reducible exact (((Below.refl _ _).alloc (Nat.le_refl _) _).alloc (by simp) _).drew | with_reducible exact ((((Below.refl _ _).alloc (Nat.le_refl _) _).alloc (by simp) _).alloc (by simp only [World.size_alloc]; omega) _).drew | with_reducible exact (((Below.refl _ _).alloc (Nat.le_refl _) _)).drew))
      | (with_reducible refine start_E hn HG1.out HG3.out hb3 ho3 ?_ <;> (first | with_reducible exact (((Below.refl _ _).alloc (Nat.le_refl _) _).alloc (by simp) _).drew | with_reducible exact ((((Below.refl _ _).alloc (Nat.le_refl _) _).alloc (by simp) _).alloc (by simp only [World.size_alloc]; omega) _).drew | with_reducible exact (((Below.refl _ _).alloc (Nat.le_refl _) _)).drew))
      | (with_reducible refine start_C hn HG1.out HG3.out hb3 ho3 ?_ ?_ ?_ <;> first | (first | with_reducible exact (((Below.refl _ _).alloc (Nat.le_refl _) _).alloc (by simp) _).drew | with_reducible exact ((((Below.refl _ _).alloc (Nat.le_refl _) _).alloc (by simp) _).alloc (by simp only [World.size_alloc]; omega) _).drew | with_reducible exact (((Below.refl _ _).alloc (Nat.le_refl _) _)).drew) | (with_reducible refine Box.drew ?_; first | with_reducible exact Box.new _ _ _ | (with_reducible refine Box.at _ _ _ ?_; simp; done) | with_reducible exact (Box.new _ _ _).alloc _ | (with_reducible refine (Box.at _ _ _ ?_).alloc _; simp; done) | with_reducible exact ((Box.new _ _ _).alloc _).alloc _) | (first | omega | (simp; done) | (simp; omega)))
      | (with_reducible refine start_B hn HG1.out HG3.out hb3 ho3 ?_ ?_ ?_ <;> first | (first | with_reducible exact (((Below.refl _ _).alloc (Nat.le_refl _) _).alloc (by simp) _).drew | with_reducible exact ((((Below.refl _ _).alloc (Nat.le_refl _) _).alloc (by simp) _).alloc (by simp only [World.size_alloc]; omega) _).drew | with_reducible exact (((Below.refl _ _).alloc (Nat.le_refl _) _)).drew) | (with_reducible refine Box.drew ?_; first | with_reducible exact Box.new _ _ _ | (with_reducible refine Box.at _ _ _ ?_; simp; done) | with_reducible exact (Box.new _ _ _).alloc _ | (with_reducible refine (Box.at _ _ _ ?_).alloc _; simp; done) | with_reducible exact ((Box.new _ _ _).alloc _).alloc _) | (first | omega | (simp; done) | (simp; omega)))
      | (with_reducible refine start_A hn HG1.out HG3.out hb3 ho3 ?_ ?_ ?_ ?_ ?_ ?_ <;> first | (first | with_reducible exact (((Below.refl _ _).alloc (Nat.le_refl _) _).alloc (by simp) _).drew | with_reducible exact ((((Below.refl _ _).alloc (Nat.le_refl _) _).alloc (by simp) _).alloc (by simp only [World.size_alloc]; omega) _).drew | with_reducible exact (((Below.refl _ _).alloc (Nat.le_refl _) _)).drew) | (with_reducible refine Box.drew ?_; first | with_reducible exact Box.new _ _ _ | (with_reducible refine Box.at _ _ _ ?_; simp; done) | with_reducible exact (Box.new _ _ _).alloc _ | (with_reducible refine (Box.at _ _ _ ?_).alloc _; simp; done) | with_reducible exact ((Box.new _ _ _).alloc _).alloc _) | (first | omega | (simp; done) | (simp; omega)))
  case rest =>
    have hga0 := hga
    obtain ⟨s, hv, hga, hct, hm, hbc⟩ := hcut
    have HB0c := Lib.hid hbc.size
    have hr := HX0.out
    have hrl : w.heap.size < w0.heap.size := hr.lt
    have HR := Lib.hid (fun W (ho : Out w0.heap.size wc.heap.size wc W) => (hr.below hbc hrl).of_block (ho.block w.heap.size (Nat.lt_of_lt_of_le hrl hbc.size) (.inl hrl)))
    have HBC := Lib.hid (HB0.out.trans (hbc.mono HB0.out.size))
    have HM := Lib.hid hm
    have HB0s := Lib.hid (Nat.le_of_lt hrl)
    clear hmk hi3 hz30 hz31 hz32 hown HX0 HG1 HG3 hr hm hbc HB0
    subst hv
    go_wp2
    go_loopw [19] (fun iv wr => ∃ (k : Nat) (R : List Nat) (Q : List Int), k ≤ n ∧ iv = .int .i64 k ∧ Mem 60 w0.heap.size wc.heap.size wr s (List.replicate n 0) R Q ∧ HGood (List.replicate n 0) (fun x => x < k) R Q ∧ R.length = k ∧ Out w0.heap.size wc.heap.size wc wr) (fun iv _ => n - (intOf iv).toNat)
    case atStart => exact ⟨0, [], List.replicate n (-1), Nat.zero_le _, rfl, HM.out, (HGood.nil (by simp)).congr (fun x => by simp), rfl, Out.refl _ _ _⟩
    case round =>
      obtain ⟨k, R, Q, hk, rfl, hm, hg, hlen, ho⟩ := hrel
      have HO := Lib.hid ho
      have HMM := Lib.hid hm
      have HGG := Lib.hid hg
      have HLEN := Lib.hid hlen
      clear hm hg hlen ho
      by_cases hlt : k < n
      · have hpush := push_any HMM.out HGG.out k (by simpa using hlt) (Nat.lt_irrefl k) (by rw [hct]; simp)
        have HP := Lib.hid hpush
        clear hpush
        obtain ⟨sg, sga, sgt, sgp, ca, ct, cp⟩ := s
        simp only at *
        go_wp2_with (go_at_call 34; refine (HP.out).mono ?_; rintro e w3 ⟨rfl, h1, h2⟩; refine Hid.out ?_)
        have H1 := Lib.hid h1
        have H2 := Lib.hid (HO.out.trans h2)
        clear h1 h2
        refine Lib.hid ?_
        go_wp2
        go_roundw
        case rel =>
          obtain ⟨R', Q', h1, h2, h3⟩ := H1.out
          exact ⟨k + 1, R', Q', by omega, by go_num, h1, h2.congr (fun x => by omega), by rw [h3, HLEN.out], H2.out⟩
        case measure => simp [intOf]; omega
      · obtain rfl : k = n := by omega
        have y0 := HMM.out.box.cell 0
        have y1 := HMM.out.box.cell 1
        have y2 := HMM.out.box.cell 2
        have y3 := HMM.out.box.cell 3
        have hrr := HR.out wr HO.out
        have r0 := hrr.cell 0
        have r1 := hrr.cell 1
        have r2 := hrr.cell 2
        have r3 := hrr.cell 3
        have f0 := hrr.frozen 0
        have f1 := hrr.frozen 1
        have f2 := hrr.frozen 2
        have f3 := hrr.frozen 3
        clear hrr
        have HGA : Hid (ga < w.heap.size) := Lib.hid hga0
        have HRL : Hid (w.heap.size < w0.heap.size) := Lib.hid hrl
        have HSZ : Hid (w.heap.size < wr.heap.size) := Lib.hid (Nat.lt_of_lt_of_le (HR.out wr HO.out).lt (Nat.le_refl _))
        obtain ⟨sg, sga, sgt, sgp, ca, ct, cp⟩ := s
        simp only [List.length_replicate] at *
        simp only [List.getElem?_toArray, List.getElem?_cons_zero, List.getElem?_cons_succ] at y0 y1 y2 y3 r0 r1 r2 r3
        go_wp2
        (try simp only [Exit.inBlock, Exit.then])
        have hbx := box4 (d0 := .slice (some ⟨ga, 0, none⟩) k ca) (d1 := .func (.func 30) #[] #[]) (d2 := .slice (some ⟨sgt, 0, none⟩) R.length k) (d3 := .slice (some ⟨sgp, 0, none⟩) k cp) (HR.out wr HO.out)
        have q0 := hbx.cell 0
        have q1 := hbx.cell 1
        have q2 := hbx.cell 2
        have q3 := hbx.cell 3
        simp only [List.getElem?_toArray, List.getElem?_cons_zero, List.getElem?_cons_succ] at q0 q1 q2 q3
        clear hbx y0 y1 y2 y3 r0 r1 r2 r3 f0 f1 f2 f3
        refine bodyPost_ret (res_cell rfl rfl (by simp [go_sem, q0, q1, q2, q3]; rfl)) rfl ?_
        refine ⟨⟨sg, ga, sgt, sgp, ca, k, cp⟩, w0.heap.size, wc.heap.size, R, Q, rfl, ?_, HGG.out, HLEN.out, rfl, rfl, HB0s.out, ?_⟩
        · have hM := HMM.out
          rw [show (⟨sg, sga, sgt, sgp, ca, ct, cp⟩ : Spot) = ⟨sg, ga, sgt, sgp, ca, k, cp⟩ by rw [hga, hct]] at hM
          refine hM.of_blocks (by simpa [World.setCell] using HO.out.size) fun j hj _ => four_other ?_
          have h1 := HRL.out
          have h2 := HGA.out
          rcases hj with hj | hj
          · omega
          · have : j = ga := hj
            omega
        · exact four_below (HBC.out.trans (HO.out.to_below (Nat.le_trans (Nat.le_of_lt HRL.out) HB0c.out) (Nat.le_of_lt HRL.out))) (Nat.le_refl _)
end L
end Go.Proofs.Ytenmgkomffnjaaa
