/- Layer 16: an end answers every call as the document says (SessPlays). No condition. -/
import Derived.Test.YtlmaelbalmjlbaaSesDf
import Derived.BigQuiet
set_option linter.all false
namespace Go.Proofs.Ytlmaelbalmjlbaa
open Go.ChangeShapes Go.WideShapes Go.ChangeAt Go.RowKit
namespace Ses
open Net
section
variable (w : World)
set_option maxRecDepth 100000 in
set_option maxHeartbeats 8000000 in
theorem plays_walk (n0 p0 ep0 : Int) (A : Option Addr) (n c : Nat) (l : List Act) (h : Acs w A n l) (hnc : n ≤ c) (hc : c * 112 ≤ 140737488351232) :
    Calls Try.prog 3 #[.agg #[.int .i64 n0, .int .i64 p0, .int .i64 ep0], .slice A n c] w fun r w' => r = .returned (.bool true) ∧ Below w.heap.size w w' := by
  have hn12 : n ≤ 1300000000000 := by omega
  obtain ⟨gh, hgh⟩ : ∃ g, w.heap.size = g := ⟨_, rfl⟩
  have hb0 : Blk (w.alloc (.cells #[.int .i64 n0, .int .i64 p0, .int .i64 ep0] 22)) gh 22 #[.int .i64 n0, .int .i64 p0, .int .i64 ep0] := Blk.new w _ _ hgh.symm
  have hB0 : Below gh w (w.alloc (.cells #[.int .i64 n0, .int .i64 p0, .int .i64 ep0] 22)) := by rw [← hgh]; exact (Below.refl _ _).alloc (Nat.le_refl _) _
  obtain ⟨w0, hw0⟩ : ∃ w0, w.alloc (.cells #[.int .i64 n0, .int .i64 p0, .int .i64 ep0] 22) = w0 := ⟨_, rfl⟩
  have hs0 : w0.heap.size = gh + 1 := by rw [← hw0]; simp [hgh]
  rw [hw0] at hb0 hB0
  have h00 := hb0.cell (j := 0) (u := .int .i64 n0) rfl
  have h01 := hb0.cell (j := 1) (u := .int .i64 p0) rfl
  have h02 := hb0.cell (j := 2) (u := .int .i64 ep0) rfl
  have HD := Lib.hid h
  clear h
  by_cases hk : nodeP n0 p0 ep0
  · have hN := new_yes w0 n0 p0 ep0 hk
    have HK := Lib.hid hk
    clear hk
    go_enter Try.func3, Try.ntmps3
    go_wp2_with fail
    refine hN.mono ?_
    rintro z w1 ⟨rfl, hE1, hb1, hs1⟩
    have hb1k := hb0.keep hb1
    have e00 := hb1k.cell (j := 0) (u := .int .i64 n0) rfl
    have e01 := hb1k.cell (j := 1) (u := .int .i64 p0) rfl
    have e02 := hb1k.cell (j := 2) (u := .int .i64 ep0) rfl
    have hB1 : Below gh w w1 := hB0.trans (hb1.mono (by omega))
    obtain ⟨b, hbb⟩ : ∃ b, w0.heap.size = b := ⟨_, rfl⟩
    rw [hbb] at hE1 hb1 hs1 ⊢
    have hRN : Calls Try.prog 10 #[.int .i64 n0, .int .i64 p0, .int .i64 ep0] w1 fun e w' => e = .returned (.tuple #[.agg #[.int .i64 n0, .int .i64 p0, .int .i64 ep0, .slice none 0 0, .int .i64 0, .int .i64 0, .bool false], .int .i64 0]) ∧ Below w1.heap.size w1 w' := rnew_yes w1 n0 p0 ep0 HK.out
    clear hb0 h00 h01 h02 hb1 hN
    go_wp2_with fail
    refine hRN.mono ?_
    rintro z w2 ⟨rfl, hb2⟩
    have hE2 := hE1.keep hb2
    have hB2 : Below gh w w2 := hB1.trans (hb2.mono (by omega))
    have hs2 := hb2.size
    have hr3 : Blk (w2.alloc (.cells #[.int .i64 n0, .int .i64 p0, .int .i64 ep0, .slice none 0 0, .int .i64 0, .int .i64 0, .bool false] 30)) w2.heap.size 30 #[.int .i64 n0, .int .i64 p0, .int .i64 ep0, .slice none 0 0, .int .i64 0, .int .i64 0, .bool false] := Blk.new w2 _ _ rfl
    have hb3 : Below w2.heap.size w2 (w2.alloc (.cells #[.int .i64 n0, .int .i64 p0, .int .i64 ep0, .slice none 0 0, .int .i64 0, .int .i64 0, .bool false] 30)) := (Below.refl _ _).alloc (Nat.le_refl _) _
    obtain ⟨w3, hw3⟩ : ∃ w3, w2.alloc (.cells #[.int .i64 n0, .int .i64 p0, .int .i64 ep0, .slice none 0 0, .int .i64 0, .int .i64 0, .bool false] 30) = w3 := ⟨_, rfl⟩
    have hs3 : w3.heap.size = w2.heap.size + 1 := by rw [← hw3]; simp
    rw [hw3] at hr3 hb3
    obtain ⟨r, hrr⟩ : ∃ r, w2.heap.size = r := ⟨_, rfl⟩
    have hbr : b ≠ r := by omega
    have hE3 := hE2.keep hb3
    have hB3 : Below gh w w3 := hB2.trans (hb3.mono (by omega))
    rw [hrr] at hr3 hs3
    have T3 : Two w3 b r (newS n0 p0 ep0) (newS n0 p0 ep0) := ⟨hE3.tw0 (.inl rfl), ⟨none, 0, 0, [], hr3, lq_none, rfl, Nat.le_refl _, Nat.zero_le _, fun q => q.2.1 rfl, HK.out⟩, hbr⟩
    have hAl := alive_ w3
    have hgb : gh < b := by omega
    have hgr : gh < r := by omega
    have HW3 := Lib.hid hw3
    clear e00 e01 e02 hb1k hRN hE1 hE2 hE3 hr3 hb2 hb3 hB1 hB2 hw3
    go_wp2_with fail
    rw [HW3.out]
    refine hAl.mono ?_
    rintro z w4 ⟨rfl, hb4⟩
    have T4 := T3.keep hb4
    have hB4 : Below gh w w4 := hB3.trans (hb4.mono (by omega))
    have hU0 : Hid (Upto 0 (newS n0 p0 ep0)) := Lib.hid ⟨Nat.le_refl _, Nat.le_refl _⟩
    clear T3 hB3 hb4 hAl hB0
    go_wp2_with fail
    go_loopw [56] (fun iv wr => ∃ (i : Nat) (e : En), i ≤ n ∧ iv = .int .i64 (i : Int) ∧ Two wr b r e e ∧ Hid (Upto i e) ∧ Below gh w wr) (fun iv _ => n - (intOf iv).toNat)
    case atStart => exact ⟨0, _, Nat.zero_le _, rfl, T4, hU0, hB4⟩
    case round =>
      obtain ⟨i, e, hi, rfl, hT, hU, hB⟩ := hrel
      have hi0 : (0 : Int) ≤ (i : Int) := by omega
      clear T4 hU0 hB4
      by_cases hlt : i < n
      · have hil : (i : Int) < (n : Int) := by omega
        have hB' : Below w.heap.size w wr := by rw [hgh]; exact hB
        obtain ⟨ba, oa, a, Y, k, q, X, p, cc, rfl, hl, hA, hcs⟩ := HD.out.at_ i hlt
        have d0 := (hB'.cell (cell_lt (hcs 0 _ rfl))).trans (hcs 0 _ rfl)
        have d1 := (hB'.cell (cell_lt (hcs 1 _ rfl))).trans (hcs 1 _ rfl)
        have d2 := (hB'.cell (cell_lt (hcs 2 _ rfl))).trans (hcs 2 _ rfl)
        have d3 := (hB'.cell (cell_lt (hcs 3 _ rfl))).trans (hcs 3 _ rfl)
        have d4 := (hB'.cell (cell_lt (hcs 4 _ rfl))).trans (hcs 4 _ rfl)
        have d5 := (hB'.cell (cell_lt (hcs 5 _ rfl))).trans (hcs 5 _ rfl)
        have d6 := (hB'.cell (cell_lt (hcs 6 _ rfl))).trans (hcs 6 _ rfl)
        have d7 := (hB'.cell (cell_lt (hcs 7 _ rfl))).trans (hcs 7 _ rfl)
        have d8 := (hB'.cell (cell_lt (hcs 8 _ rfl))).trans (hcs 8 _ rfl)
        have d9 := (hB'.cell (cell_lt (hcs 9 _ rfl))).trans (hcs 9 _ rfl)
        simp only [Nat.add_zero] at d0
        have HYB := Lib.hid (rd_lt3 hA.d.bs)
        have HXB := Lib.hid (rd_lt3 hA.m.bs)
        obtain ⟨g, hg⟩ : ∃ g, wr.heap.size = g := ⟨_, rfl⟩
        have hbg : Blk (wr.alloc (.cells (aa a (.slice Y k q) (.slice X p cc)) 38)) g 38 (aa a (.slice Y k q) (.slice X p cc)) := Blk.new wr _ _ hg.symm
        have hba : Below wr.heap.size wr (wr.alloc (.cells (aa a (.slice Y k q) (.slice X p cc)) 38)) := (Below.refl _ _).alloc (Nat.le_refl _) _
        have hsr := hB'.size
        have T5 := hT.keep hba
        have hB5 := hB'.trans (hba.mono hsr)
        have hA5 := hA.below hB5
        have hlt := hT.lt
        have hgb2 : g ≠ b := by omega
        have hgr2 : g ≠ r := by omega
        have hkd := hA.kd
        have hul : e.l.length ≤ 2000000000000 := by have := hU.out.1; omega
        have huc : e.c ≤ 1000000000000000000 := by have := hU.out.2; omega
        clear hba hcs hl hA hT hB hB'
        rcases (show a.kd % 4 = 0 ∨ a.kd % 4 = 1 ∨ a.kd % 4 = 2 ∨ a.kd % 4 = 3 by omega) with cq | cq | cq | cq
        · have t0 : ((a.kd : Int) % 4 == 0) = true := by rw [mod4 cq]; decide
          clear cq
          go_wp2_with fail
          obtain ⟨w5, hw5⟩ : ∃ w5, wr.alloc (.cells (aa a (.slice Y k q) (.slice X p cc)) 38) = w5 := ⟨_, rfl⟩
          rw [hw5] at hbg T5 hB5 hA5 ⊢
          clear d0 d1 d2 d3 d4 d5 d6 d7 d8 d9 hw5
          obtain ⟨k0, k1, k2, k3, k4, k5, k6, k7, k8, k9⟩ := aa_cells hbg

          obtain ⟨z0, hz0⟩ : ∃ z0, sndE e a.d = z0 := ⟨_, rfl⟩
          have hS : ∀ p, Calls Try.prog 12 #[.pointer (some ⟨b, 0, none⟩), .slice Y k q] (w5.drewN p) (fun z w6 => z = .returned (.int .i64 z0) ∧ Two w6 b r (sndS e a.d) e ∧ Fu (fun k => k = b) w5 w6) := fun p => by
            rw [← hz0]
            refine (two_send (w5.drewN p) b r e e (T5.drewN p) Y k q a.d (hA5.d.bs.drewN p) hA5.d.nil hA5.d.le hA5.d.cap).mono ?_
            rintro z w6 ⟨e1, e2, e3⟩
            exact ⟨e1, e2, ⟨e3.os, e3.tape, e3.output, e3.size, e3.block⟩⟩
          have hR : ∀ w6, Two w6 b r (sndS e a.d) e → Bs w6 Y k a.d → Calls Try.prog 13 #[.pointer (some ⟨r, 0, none⟩), .slice Y k q] w6 (fun z w7 => z = .returned (.int .i64 z0) ∧ Two w7 b r (sndS e a.d) (sndS e a.d) ∧ Fu (fun k => k = r) w6 w7) := fun w6 h1 h2 => by
            rw [← hz0]
            exact two_rsend w6 b r _ e h1 hul Y k q a.d h2 hA5.d.nil
          have HS := Lib.hid hS
          have HR := Lib.hid hR
          have HBY : Hid (∀ w6, Fu (fun k => k = b) w5 w6 → Bs w6 Y k a.d) := Lib.hid (fun w6 hF => by
            by_cases hn : k = 0
            · have hd : a.d = [] := List.eq_nil_of_length_eq_zero (by rw [← hA5.d.bs.len]; exact hn)
              rw [hd, hn]; exact Bs.nil
            · exact bs_fu hA5.d.bs hF (fun x ea q => by have := HYB.out x ea (by omega); omega))
          clear hS hR hz0 hkd
          go_region_held3 (fun w2 => w2.cell? ⟨g, 1, none⟩ = some (.slice Y k q))
            (first | go_keep | exact k1 | exact kx1 | exact ky1)
            (first
              | (go_at_call 12; refine (HS.out _).mono ?_; rintro z w6 ⟨rfl, T6, hF6⟩; have kx1 := fu_cell3 hF6 k1 hgb2)
              | (go_at_call 13; refine (HR.out w6 T6 (HBY.out w6 hF6)).mono ?_; rintro z w7 ⟨rfl, T7, hF7⟩; have ky1 := fu_cell3 hF7 kx1 hgr2))
          have hB7 : Below gh w w7 := ((hgh ▸ hB5 : Below gh w w5).trans (hF6.below (B := gh) (by have := hB5.size; omega) (fun j q => by omega))).trans (hF7.below (B := gh) (by have := hB5.size; have := hF6.size; omega) (fun j q => by omega))
          have hUp := upto_snd hU.out a.d
          clear k0 k1 k2 k3 k4 k5 k6 k7 k8 k9 kx1 ky1 T6 hF6 hF7 T5 hbg
          obtain ⟨E1, hE1⟩ : ∃ E1, sndS e a.d = E1 := ⟨_, rfl⟩

          rw [hE1] at T7 hUp
          have HUp := Lib.hid hUp
          clear hUp hE1
          obtain ⟨A1, n1, c1, L1, hR1⟩ := T7.rx
          have HN1 := Lib.hid hR1.len
          have hak := hR1.ack
          obtain ⟨y0, y1, y2, y3, y4, y5, y6⟩ := ra_cells hR1.blk
          obtain ⟨a1, ha1⟩ : ∃ x, E1.a = x := ⟨_, rfl⟩
          have Ha1 := Lib.hid ha1
          rw [ha1] at y4 hak
          obtain ⟨op, hop⟩ : ∃ x, n1 - a1 = x := ⟨_, rfl⟩
          have Hop := Lib.hid hop
          have hn1 : n1 ≤ 2000000000000 := by have := HN1.out; have := HUp.out.1; omega
          have hwn : IntKind.i64.wrap ((n1 : Int) - (a1 : Int)) = (op : Int) := by rw [IntKind.wrap_i64]; have := HN1.out; omega
          have hEp := fun k => epoch_ (w7.drewN k) b _ E1 (T7.drewN k).ed
          have hOp : ∀ k, Calls Try.prog 23 #[.pointer (some ⟨b, 0, none⟩)] (w7.drewN k) fun z w' => z = .returned (.int .i64 (op : Int)) ∧ w7.drewN k = w' := fun k => by
            have := open_ (w7.drewN k) b _ E1 (T7.drewN k).ed
            rw [show E1.l.length - E1.a = op by have := HN1.out; have := Ha1.out; have := Hop.out; omega] at this
            exact this
          have hCa := fun k => came_ (w7.drewN k) b _ E1 (T7.drewN k).ed
          have hOw := fun k => owes_ (w7.drewN k) b _ E1 (T7.drewN k).ed
          clear hR1 ha1 hop
          go_wp2_with fail
          go_quiet (first
            | (go_at_call 22; exact quiet_two (hEp _))
            | (go_at_call 23; exact quiet_two (hOp _))
            | (go_at_call 24; exact quiet_two (hCa _))
            | (go_at_call 25; exact quiet_two (hOw _)))
          go_wp2
          exact ⟨⟨i + 1, E1, by omega, by go_num, T7.drewN nq, HUp, below_drewN hB7 nq⟩, by simp [intOf]; omega⟩
        · have t0 : ((a.kd : Int) % 4 == 0) = false := by rw [mod4 cq]; decide
          have t1 : ((a.kd : Int) % 4 == 1) = true := by rw [mod4 cq]; decide
          clear cq
          go_wp2_with fail
          obtain ⟨w5, hw5⟩ : ∃ w5, wr.alloc (.cells (aa a (.slice Y k q) (.slice X p cc)) 38) = w5 := ⟨_, rfl⟩
          rw [hw5] at hbg T5 hB5 hA5 ⊢
          clear d0 d1 d2 d3 d4 d5 d6 d7 d8 d9 hw5
          obtain ⟨k0, k1, k2, k3, k4, k5, k6, k7, k8, k9⟩ := aa_cells hbg

          have hsz5 : r < w5.heap.size := T5.lt.2
          have hS := two_step w5 b r e e T5 hul huc
          clear k0 k1 k2 k3 k4 k5 k6 k7 k8 k9 hbg hkd T5
          refine hS.mono ?_
          rintro z w6 ⟨v6, P6, rfl, hP6, hl6, T6, hF6⟩
          clear hS
          go_wp2_with fail
          refine (two_rstep w6 b r _ e T6 hul huc).mono ?_
          rintro z w8 ⟨v8, P8, rfl, hP8, hl8, T8, hF8⟩
          have hs6 := hF6.size
          have hB8 : Below gh w w8 := ((hgh ▸ hB5 : Below gh w w5).trans (hF6.below (B := gh) (by have := hB5.size; omega) (fun j q => by omega))).trans (hF8.below (B := gh) (by have := hB5.size; omega) (fun j q => by omega))
          have hrl := T6.lt
          have hP8' := hP6.fu hF8 (fun k hk _ q => by have := hsz5; omega)
          have hM := rmsgs_ w8 _ _ v6 v8 P6 P8 hP8' hP8 (hl6.trans hl8.symm)
          clear hP6 hP8 hP8' hl6 hl8 T6 hF6 hF8
          go_wp2_with fail
          refine hM.mono ?_
          rintro z w7 ⟨rfl, hb7⟩
          have T7 := T8.keep hb7
          have hB7 : Below gh w w7 := hB8.trans (hb7.mono (by have := hB8.size; omega))
          have hUp := upto_stp hU.out
          clear hM T8 hB8 hb7
          obtain ⟨E1, hE1⟩ : ∃ E1, stpS e = E1 := ⟨_, rfl⟩

          rw [hE1] at T7 hUp
          have HUp := Lib.hid hUp
          clear hUp hE1
          obtain ⟨A1, n1, c1, L1, hR1⟩ := T7.rx
          have HN1 := Lib.hid hR1.len
          have hak := hR1.ack
          obtain ⟨y0, y1, y2, y3, y4, y5, y6⟩ := ra_cells hR1.blk
          obtain ⟨a1, ha1⟩ : ∃ x, E1.a = x := ⟨_, rfl⟩
          have Ha1 := Lib.hid ha1
          rw [ha1] at y4 hak
          obtain ⟨op, hop⟩ : ∃ x, n1 - a1 = x := ⟨_, rfl⟩
          have Hop := Lib.hid hop
          have hn1 : n1 ≤ 2000000000000 := by have := HN1.out; have := HUp.out.1; omega
          have hwn : IntKind.i64.wrap ((n1 : Int) - (a1 : Int)) = (op : Int) := by rw [IntKind.wrap_i64]; have := HN1.out; omega
          have hEp := fun k => epoch_ (w7.drewN k) b _ E1 (T7.drewN k).ed
          have hOp : ∀ k, Calls Try.prog 23 #[.pointer (some ⟨b, 0, none⟩)] (w7.drewN k) fun z w' => z = .returned (.int .i64 (op : Int)) ∧ w7.drewN k = w' := fun k => by
            have := open_ (w7.drewN k) b _ E1 (T7.drewN k).ed
            rw [show E1.l.length - E1.a = op by have := HN1.out; have := Ha1.out; have := Hop.out; omega] at this
            exact this
          have hCa := fun k => came_ (w7.drewN k) b _ E1 (T7.drewN k).ed
          have hOw := fun k => owes_ (w7.drewN k) b _ E1 (T7.drewN k).ed
          clear hR1 ha1 hop
          go_wp2_with fail
          go_quiet (first
            | (go_at_call 22; exact quiet_two (hEp _))
            | (go_at_call 23; exact quiet_two (hOp _))
            | (go_at_call 24; exact quiet_two (hCa _))
            | (go_at_call 25; exact quiet_two (hOw _)))
          go_wp2
          exact ⟨⟨i + 1, E1, by omega, by go_num, T7.drewN nq, HUp, below_drewN hB7 nq⟩, by simp [intOf]; omega⟩
        · have t0 : ((a.kd : Int) % 4 == 0) = false := by rw [mod4 cq]; decide
          have t1 : ((a.kd : Int) % 4 == 1) = false := by rw [mod4 cq]; decide
          have t2 : ((a.kd : Int) % 4 == 2) = true := by rw [mod4 cq]; decide
          clear cq
          go_wp2_with fail
          obtain ⟨w5, hw5⟩ : ∃ w5, wr.alloc (.cells (aa a (.slice Y k q) (.slice X p cc)) 38) = w5 := ⟨_, rfl⟩
          rw [hw5] at hbg T5 hB5 hA5 ⊢
          clear d0 d1 d2 d3 d4 d5 d6 d7 d8 d9 hw5
          obtain ⟨k0, k1, k2, k3, k4, k5, k6, k7, k8, k9⟩ := aa_cells hbg

          have hS := two_recv w5 b r e e T5 hul huc a.m X p cc hA5.m (fun x ea hn => by have := HXB.out x ea hn; omega)
          have HL5 := Lib.hid T5.lt
          clear hkd T5
          refine hS.mono ?_
          rintro z w6 ⟨v6, rfl, hown6, T6, hF6⟩
          have hs6 := hF6.size
          have hbg6 := blk_fu hbg hF6 hgb2
          have hM6 : Mdt w6 a.m X p cc := by
            refine ⟨?_, hA5.m.nil, hA5.m.le, hA5.m.cap, hA5.m.far, hA5.m.fit⟩
            by_cases hn : p = 0
            · have hd : a.m.d = [] := List.eq_nil_of_length_eq_zero (by rw [← hA5.m.len]; exact hn)
              rw [hd, hn]; exact Bs.nil
            · exact bs_fu hA5.m.bs hF6 (fun x ea q => by have := HXB.out x ea (by omega); omega)
          clear hS k0 k1 k2 k3 k4 k5 k6 k7 k8 k9 hbg
          obtain ⟨k0, k1, k2, k3, k4, k5, k6, k7, k8, k9⟩ := aa_cells hbg6
          have hS := two_rrecv w6 b r _ e T6 hul huc a.m X p cc hM6 (fun x ea hn => by have := HXB.out x ea hn; omega)
          clear hbg6 hM6
          go_wp2_with fail
          refine hS.mono ?_
          rintro z w7 ⟨v7, rfl, hown7, T7, hF7⟩
          have hB7 : Below gh w w7 := ((hgh ▸ hB5 : Below gh w w5).trans (hF6.below (B := gh) (by have := hB5.size; omega) (fun j q => by omega))).trans (hF7.below (B := gh) (by have := hB5.size; omega) (fun j q => by omega))
          have hown8 := own_fu hown6 hF7 (fun k hk q => by have := (hown6.lt k hk).1; have := HL5.out; omega)
          obtain ⟨A6, c6, rfl, _, _, hA6⟩ := own_form hown8
          obtain ⟨A7, c7, rfl, _, _, hA7⟩ := own_form hown7
          have hSm := same_ A6 A7 (rcvD e a.m).length c6 (rcvD e a.m).length c7 (rcvD e a.m) (rcvD e a.m) w7 (bs_own hown8) (bs_own hown7) (fun h => (hA6 h).1) (fun h => (hA7 h).1)
          rw [show (rcvD e a.m == rcvD e a.m) = true by simp] at hSm
          obtain ⟨dl, hdl⟩ : ∃ x, (rcvD e a.m).length = x := ⟨_, rfl⟩
          obtain ⟨is, his⟩ : ∃ x, isN e a.m = x := ⟨_, rfl⟩
          obtain ⟨we, hwe⟩ : ∃ x, wrnE e a.m = x := ⟨_, rfl⟩
          rw [hdl] at hSm ⊢
          rw [his, hwe]
          have hUp := upto_rcv hU.out a.m
          clear hS k0 k1 k2 k3 k4 k5 k6 k7 k8 k9 hown6 hown7 hown8 T6 hF6 hF7 hdl his hwe hA6 hA7
          go_wp2_with fail
          refine hSm.mono ?_
          rintro z wq ⟨rfl, rfl⟩
          clear hSm
          obtain ⟨E1, hE1⟩ : ∃ E1, rcvS e a.m = E1 := ⟨_, rfl⟩

          rw [hE1] at T7 hUp
          have HUp := Lib.hid hUp
          clear hUp hE1
          obtain ⟨A1, n1, c1, L1, hR1⟩ := T7.rx
          have HN1 := Lib.hid hR1.len
          have hak := hR1.ack
          obtain ⟨y0, y1, y2, y3, y4, y5, y6⟩ := ra_cells hR1.blk
          obtain ⟨a1, ha1⟩ : ∃ x, E1.a = x := ⟨_, rfl⟩
          have Ha1 := Lib.hid ha1
          rw [ha1] at y4 hak
          obtain ⟨op, hop⟩ : ∃ x, n1 - a1 = x := ⟨_, rfl⟩
          have Hop := Lib.hid hop
          have hn1 : n1 ≤ 2000000000000 := by have := HN1.out; have := HUp.out.1; omega
          have hwn : IntKind.i64.wrap ((n1 : Int) - (a1 : Int)) = (op : Int) := by rw [IntKind.wrap_i64]; have := HN1.out; omega
          have hEp := fun k => epoch_ (w7.drewN k) b _ E1 (T7.drewN k).ed
          have hOp : ∀ k, Calls Try.prog 23 #[.pointer (some ⟨b, 0, none⟩)] (w7.drewN k) fun z w' => z = .returned (.int .i64 (op : Int)) ∧ w7.drewN k = w' := fun k => by
            have := open_ (w7.drewN k) b _ E1 (T7.drewN k).ed
            rw [show E1.l.length - E1.a = op by have := HN1.out; have := Ha1.out; have := Hop.out; omega] at this
            exact this
          have hCa := fun k => came_ (w7.drewN k) b _ E1 (T7.drewN k).ed
          have hOw := fun k => owes_ (w7.drewN k) b _ E1 (T7.drewN k).ed
          clear hR1 ha1 hop
          go_wp2_with fail
          go_quiet (first
            | (go_at_call 22; exact quiet_two (hEp _))
            | (go_at_call 23; exact quiet_two (hOp _))
            | (go_at_call 24; exact quiet_two (hCa _))
            | (go_at_call 25; exact quiet_two (hOw _)))
          go_wp2
          exact ⟨⟨i + 1, E1, by omega, by go_num, T7.drewN nq, HUp, below_drewN hB7 nq⟩, by simp [intOf]; omega⟩
        · have t0 : ((a.kd : Int) % 4 == 0) = false := by rw [mod4 cq]; decide
          have t1 : ((a.kd : Int) % 4 == 1) = false := by rw [mod4 cq]; decide
          have t2 : ((a.kd : Int) % 4 == 2) = false := by rw [mod4 cq]; decide
          clear cq
          go_wp2_with fail
          obtain ⟨w5, hw5⟩ : ∃ w5, wr.alloc (.cells (aa a (.slice Y k q) (.slice X p cc)) 38) = w5 := ⟨_, rfl⟩
          rw [hw5] at hbg T5 hB5 hA5 ⊢
          clear d0 d1 d2 d3 d4 d5 d6 d7 d8 d9 hw5
          obtain ⟨k0, k1, k2, k3, k4, k5, k6, k7, k8, k9⟩ := aa_cells hbg

          obtain ⟨z0, hz0⟩ : ∃ z0, begE e a.ep = z0 := ⟨_, rfl⟩
          have hS : ∀ p, Calls Try.prog 20 #[.pointer (some ⟨b, 0, none⟩), .int .i64 a.ep] (w5.drewN p) (fun z w6 => z = .returned (.int .i64 z0) ∧ Two w6 b r (begS e a.ep) e ∧ Fu (fun k => k = b) w5 w6) := fun p => by
            rw [← hz0]
            refine (two_begin (w5.drewN p) b r e e (T5.drewN p) a.ep).mono ?_
            rintro z w6 ⟨e1, e2, e3⟩
            exact ⟨e1, e2, ⟨e3.os, e3.tape, e3.output, e3.size, e3.block⟩⟩
          have hR : ∀ w6, Two w6 b r (begS e a.ep) e → Calls Try.prog 21 #[.pointer (some ⟨r, 0, none⟩), .int .i64 a.ep] w6 (fun z w7 => z = .returned (.int .i64 z0) ∧ Two w7 b r (begS e a.ep) (begS e a.ep) ∧ Fu (fun k => k = r) w6 w7) := fun w6 h1 => by
            rw [← hz0]
            exact two_rbegin w6 b r _ e h1 a.ep
          have HS := Lib.hid hS
          have HR := Lib.hid hR
          clear hS hR hz0 hkd
          go_region_held3 (fun w2 => w2.cell? ⟨g, 9, none⟩ = some (.int .i64 a.ep))
            (first | go_keep | exact k9 | exact kx1 | exact ky1)
            (first
              | (go_at_call 20; refine (HS.out _).mono ?_; rintro z w6 ⟨rfl, T6, hF6⟩; have kx1 := fu_cell3 hF6 k9 hgb2)
              | (go_at_call 21; refine (HR.out w6 T6).mono ?_; rintro z w7 ⟨rfl, T7, hF7⟩; have ky1 := fu_cell3 hF7 kx1 hgr2))
          have hB7 : Below gh w w7 := ((hgh ▸ hB5 : Below gh w w5).trans (hF6.below (B := gh) (by have := hB5.size; omega) (fun j q => by omega))).trans (hF7.below (B := gh) (by have := hB5.size; have := hF6.size; omega) (fun j q => by omega))
          have hUp := upto_beg hU.out a.ep
          clear k0 k1 k2 k3 k4 k5 k6 k7 k8 k9 kx1 ky1 T6 hF6 hF7 T5 hbg
          obtain ⟨E1, hE1⟩ : ∃ E1, begS e a.ep = E1 := ⟨_, rfl⟩

          rw [hE1] at T7 hUp
          have HUp := Lib.hid hUp
          clear hUp hE1
          obtain ⟨A1, n1, c1, L1, hR1⟩ := T7.rx
          have HN1 := Lib.hid hR1.len
          have hak := hR1.ack
          obtain ⟨y0, y1, y2, y3, y4, y5, y6⟩ := ra_cells hR1.blk
          obtain ⟨a1, ha1⟩ : ∃ x, E1.a = x := ⟨_, rfl⟩
          have Ha1 := Lib.hid ha1
          rw [ha1] at y4 hak
          obtain ⟨op, hop⟩ : ∃ x, n1 - a1 = x := ⟨_, rfl⟩
          have Hop := Lib.hid hop
          have hn1 : n1 ≤ 2000000000000 := by have := HN1.out; have := HUp.out.1; omega
          have hwn : IntKind.i64.wrap ((n1 : Int) - (a1 : Int)) = (op : Int) := by rw [IntKind.wrap_i64]; have := HN1.out; omega
          have hEp := fun k => epoch_ (w7.drewN k) b _ E1 (T7.drewN k).ed
          have hOp : ∀ k, Calls Try.prog 23 #[.pointer (some ⟨b, 0, none⟩)] (w7.drewN k) fun z w' => z = .returned (.int .i64 (op : Int)) ∧ w7.drewN k = w' := fun k => by
            have := open_ (w7.drewN k) b _ E1 (T7.drewN k).ed
            rw [show E1.l.length - E1.a = op by have := HN1.out; have := Ha1.out; have := Hop.out; omega] at this
            exact this
          have hCa := fun k => came_ (w7.drewN k) b _ E1 (T7.drewN k).ed
          have hOw := fun k => owes_ (w7.drewN k) b _ E1 (T7.drewN k).ed
          clear hR1 ha1 hop
          go_wp2_with fail
          go_quiet (first
            | (go_at_call 22; exact quiet_two (hEp _))
            | (go_at_call 23; exact quiet_two (hOp _))
            | (go_at_call 24; exact quiet_two (hCa _))
            | (go_at_call 25; exact quiet_two (hOw _)))
          go_wp2
          exact ⟨⟨i + 1, E1, by omega, by go_num, T7.drewN nq, HUp, below_drewN hB7 nq⟩, by simp [intOf]; omega⟩
      · have hil : ¬ (i : Int) < (n : Int) := by omega
        go_wp2
        go_ret
        exact ⟨rfl, by first | exact hB | (rw [hgh]; exact hB)⟩
  · have hN := new_no w0 n0 p0 ep0 hk
    have HK := Lib.hid hk
    clear hk
    go_enter Try.func3, Try.ntmps3
    go_wp2_with fail
    refine hN.mono ?_
    rintro z w1 ⟨rfl, rfl⟩
    go_wp2_with fail
    refine (rnew_no w0 n0 p0 ep0 HK.out).mono ?_
    rintro z w2 ⟨rfl, hb2⟩
    have hB2 : Below gh w w2 := hB0.trans (hb2.mono (by omega))
    have hs2 := hb2.size
    have hb3 : Below w2.heap.size w2 (w2.alloc (.cells ra0 30)) := (Below.refl _ _).alloc (Nat.le_refl _) _
    obtain ⟨w3, hw3⟩ : ∃ w3, w2.alloc (.cells ra0 30) = w3 := ⟨_, rfl⟩
    rw [hw3] at hb3
    have hB3 : Below gh w w3 := hB2.trans (hb3.mono (by omega))
    have hAl := alive_ w3
    have HW3 := Lib.hid hw3
    have HS3 := Lib.hid hb3.size
    clear hw3 hb3
    go_wp2_with fail
    rw [HW3.out]
    refine hAl.mono ?_
    rintro z w4 ⟨rfl, hb4⟩
    have hB4 : Below gh w w4 := hB3.trans (hb4.mono (by have := HS3.out; omega))
    go_wp2
    go_ret
    exact ⟨rfl, by rw [hgh]; exact hB4⟩
end
end Ses
open Ses Net


set_option maxRecDepth 100000 in
theorem sessPlays_lifted (os : Os) (started : os.Started) (H : Type) (enc : TypeId × Value → H) :
    ReturnsInHanded {} Try.checked os 3 .any (Rows.sessPlaysSpec.pre6 enc Try.prog Try.f3 Rows.sessPlaysRow.domain false) (Rows.sessPlaysSpec.post enc Try.prog Try.f3 false true false false) := by
  refine law_lifted (C := Try.checked) (tb := 4) own_ started (by kernel_rfl) Try.func3
    (ChangeSpec.witness6 (enc := enc) (C := Try.checked) false ⟨#[], #[.agg #[.int .i64 0, .int .i64 0, .int .i64 0], .slice none 0 0], []⟩ 8 (by kernel_rfl) (by kernel_rfl) (by kernel_rfl) (by kernel_rfl))
    rfl rfl Try.underlying4 laidOut_ (by kernel_rfl) (fun ds h => by match ds, h with | [_, _], _ => rfl) ?_
  intro W base args ds p hval0 hA0 _ hsz0
  have hval : ∀ (j : Nat) t v, Try.f3.params[j]? = some t → args[j]? = some v → Value.okWide Try.prog W .any base t v := hval0
  have hA : DataW.TrodAll enc Try.prog W 0 (fun _ => true) true Try.f3.params.toList args.toList ds p := hA0
  have hsz : (DataW.weightsEach Try.prog Try.f3.params.toList ds).all (· ≤ reachBytes) = true := hsz0
  clear hval0 hA0 hsz0
  rw [Try.params3] at hA hval hsz
  obtain ⟨v0, v1, d0, d1, p0, p1, rfl, rfl, rfl, h0, h1⟩ := trodAll_two hA
  obtain ⟨cs0, a0, rfl, r0, b0⟩ := arg_arr ops_three Try.underlying22 (hval 0 _ v0 rfl rfl) h0 (weight_at hsz (j := 0) rfl rfl)
  obtain ⟨A1, n1, c1, xs1, rfl, r1, b1⟩ := arg_slice ops_acs Try.underlying23 (hval 1 _ v1 rfl rfl) h1 (weight_at hsz (j := 1) rfl rfl)
  exact by
    obtain ⟨rfl, hi0, hi1, hi2⟩ := three_arr r0
    obtain ⟨ha, hac, hab⟩ := acs_of r1
    exact plays_walk W _ _ _ A1 n1 c1 _ ha hac hab

/-- SessPlays, for every input: the statement as it was given. -/
theorem sessPlays_holds : Rows.SessPlaysSaid :=
  OpenClaim.holds_of_wide 3 Try.f3 rfl rfl rfl rfl rfl rfl rfl ⟨rfl, rfl, rfl, rfl, rfl⟩ rfl rfl rfl rfl rfl (by kernel_rfl) Try.func3 (by kernel_rfl)
    (of_decide_eq_true (by kernel_rfl)) (by unfold Func.isWrapper; first | (rw [if_pos (by decide +kernel)]; kernel_rfl) | (rw [if_neg (by decide +kernel)]; exact ⟨rfl, rfl⟩))
    (fun os started H enc _ => sessPlays_lifted os started H enc)
end Go.Proofs.Ytlmaelbalmjlbaa
