/- Layer 16: the document's Step. -/
import Derived.Test.YtlmaelbalmjlbaaSesG
import Derived.Test.YtlmaelbalmjlbaaSesDa
import Derived.Test.YtlmaelbalmjlbaaStep
set_option linter.all false
namespace Go.Proofs.Ytlmaelbalmjlbaa
open Go.RowKit
namespace Ses
open Net
/-- What the document's Step answers, and leaves. -/
def RstA (r : Nat) (U : Nat → Prop) (e : En) (w w' : World) (z : Ending) : Prop :=
  ∃ v P, z = .returned v ∧ Prw w' w.heap.size v P ∧ P.map (·.1) = stpL e ∧ Rx w' r U (stpS e) ∧ Fu (fun k => k = r) w w'
section
variable (w : World)
set_option maxRecDepth 100000 in
set_option maxHeartbeats 8000000 in
theorem rstep_ (r : Nat) (U : Nat → Prop) (e : En) (h : Rx w r U e) (hU : ∀ k, U k → k < w.heap.size) (hl : e.l.length ≤ 2000000000000) (hc : e.c ≤ 1000000000000000000) :
    Calls Try.prog 16 #[.pointer (some ⟨r, 0, none⟩)] w fun z w' => RstA r U e w w' z := by
  obtain ⟨i0, hi0', hz0, hz1, hz2⟩ := msg_info
  have Hz := Lib.hid hz2
  obtain ⟨i1, hi1, hy0, hy1, hy2⟩ := info_parts info_u8
  have Hy := Lib.hid hy2
  obtain ⟨A, n, cc, L, hX⟩ := h
  obtain ⟨_, _, _, c3, c4, _, _⟩ := ra_cells hX.blk
  have HX := Lib.hid hX
  have HQ := Lib.hid hX.len
  have hbl := hX.blk.lt
  obtain ⟨a0, ha0⟩ : ∃ a0, e.a = a0 := ⟨_, rfl⟩
  have Ha := Lib.hid ha0
  have han : a0 ≤ n := by have := hX.ack; have := HQ.out; omega
  have hn8 : n ≤ a0 + 8 := by have := hX.few; have := HQ.out; omega
  have hn2 : n ≤ 2000000000000 := by have := HQ.out; omega
  rw [ha0] at c4
  clear hX hz2 hy2 ha0
  go_enter Try.func16, Try.ntmps16
  go_wp2_with fail
  go_loopw [4, 3] (fun iv lv wr => ∃ (i : Nat) (P : List (Ms × Value)), a0 ≤ i ∧ i ≤ n ∧ iv = .int .i64 (i : Int) ∧ Prw wr w.heap.size lv P ∧ P.map (·.1) = ((List.range (i - a0)).map fun j => loadM e (e.a + j)) ∧ Below w.heap.size w wr) (fun iv _ _ => n - (intOf iv).toNat)
  case atStart => exact ⟨a0, [], Nat.le_refl _, han, rfl, ⟨own_nil _ _ _ _, by simp⟩, by simp, Below.refl _ _⟩
  case round =>
    obtain ⟨i, P, hai, hin, rfl, hP, hPl, hB⟩ := hrel
    have HPl := Lib.hid hPl
    clear hPl
    have hi0 : (0 : Int) ≤ (i : Int) := by omega
    have hXr := HX.out.keep hB
    have HXr := Lib.hid hXr
    have hsz := hB.size
    have hbk := hXr.blk
    obtain ⟨d0, d1, d2, d3, _, d5, d6⟩ := ra_cells hbk
    have hrow := hP.row
    obtain ⟨A1, c1', hu3, hc1, hm1, ha1⟩ := own_form hrow
    obtain ⟨np, hnp⟩ : ∃ np, P.length = np := ⟨_, rfl⟩
    have Hnp := Lib.hid hnp
    have HNI := Lib.hid (show np = i - a0 by have := congrArg List.length HPl.out; simp at this; omega)
    have hnp8 : np ≤ 8 := by have := HNI.out; omega
    rw [hnp] at hrow hu3 hc1 ha1
    subst hu3
    have HP := Lib.hid hP
    clear hXr hP c3 c4 hnp ha1
    by_cases hlt : i < n
    · have hil : (i : Int) < (n : Int) := by omega
      obtain ⟨ba, oa, X, mx, cx, d, rfl, hd, hcx0, hbx0, hmx, hcx2, hm12, hxn, hxu⟩ := HX.out.q.get hlt
      have hcx := (hB.cell (cell_lt hcx0)).trans hcx0
      have hbx := hbx0.below hB
      have Hd := Lib.hid (show e.l.getD i [] = d by
        rw [HX.out.is] at hd
        rw [List.getD, hd]; rfl)
      obtain ⟨z, hz⟩ : ∃ z : Int, z = (i : Int) + 1 := ⟨_, rfl⟩
      have hwi : IntKind.i64.wrap ((i : Int) + 1) = z := by rw [IntKind.wrap_i64]; omega
      have HZ := Lib.hid hz
      have HM := Lib.hid (show loadM e i = ⟨e.n, e.p, 1, e.ep, z, e.c, d⟩ by rw [hz, ← Hd.out]; rfl)
      have Hml := Lib.hid hbx.len
      have hxz : X = none → mx = 0 := fun h => (hxn h).1
      clear hz hd hxn
      go_wp2_with fail
      go_region_held3 (fun w2 => w2.cell? ⟨r, 0, none⟩ = some (.int .i64 e.n) ∧ w2.cell? ⟨r, 1, none⟩ = some (.int .i64 e.p) ∧ w2.cell? ⟨r, 2, none⟩ = some (.int .i64 e.ep) ∧ w2.cell? ⟨r, 3, none⟩ = some (.slice (some ⟨ba, oa, none⟩) n cc) ∧ w2.cell? ⟨r, 5, none⟩ = some (.int .i64 (e.c : Int)) ∧ w2.cell? ⟨ba, oa + i, none⟩ = some (.slice X mx cx))
        (first | go_keep | exact ⟨d0, d1, d2, d3, d5, hcx⟩ | exact ⟨b0, b1, b2, b3, b5, bx⟩ | exact ⟨x0, x1, x2, x3, x5, xx⟩)
        (first
        | (refine step_app _ rfl (.const (.slice none 0 0)) (.tmp 43) _ rfl wr.heap.size 5 i1 _ 1 1 Try.underlying34 hi1 hy0 hy1 Hy.out rfl (by omega) (.slice none 0 0) 0 [] rfl (own_nil _ _ _ _) X mx cx (bvs d) rfl hxz (show Rd wr.drew X 1 mx (bvs d) from hbx) (bvs_one _) (by unfold maxLen; omega) (by omega) (Nat.le_refl _) ?_
           intro vB wB hownB hgB hatB
           obtain ⟨XB, cB, rfl, hcB, hmB, haB⟩ := own_form hownB
           simp only [Nat.zero_add, List.nil_append] at hownB hcB haB ⊢
           have hbB : Below wr.heap.size wr wB := ⟨hgB.os, hgB.tape, hgB.output, hgB.size, fun k hk => hgB.block k hk (fun e => by cases e)⟩
           have hbC : Below wB.heap.size wB (wB.alloc (.cells #[.int .i64 e.n, .int .i64 e.p, .int .i64 1, .int .i64 e.ep, .int .i64 z, .int .i64 (e.c : Int), .slice XB mx cB] 36)) := (Below.refl _ _).alloc (Nat.le_refl _) _
           have hsB : wr.heap.size ≤ wB.heap.size := hbB.size
           have hBC : Below wr.heap.size wr (wB.alloc (.cells #[.int .i64 e.n, .int .i64 e.p, .int .i64 1, .int .i64 e.ep, .int .i64 z, .int .i64 (e.c : Int), .slice XB mx cB] 36)) := hbB.trans (hbC.mono hsB)
           have hkB := hbk.keep hbB
           have b0 := hkB.cell (j := 0) (u := .int .i64 e.n) rfl
           have b1 := hkB.cell (j := 1) (u := .int .i64 e.p) rfl
           have b2 := hkB.cell (j := 2) (u := .int .i64 e.ep) rfl
           have b3 := hkB.cell (j := 3) (u := .slice (some ⟨ba, oa, none⟩) n cc) rfl
           have b5 := hkB.cell (j := 5) (u := .int .i64 (e.c : Int)) rfl
           have bx := (hbB.cell (cell_lt hcx)).trans hcx
           have hrowC := own_keep hrow hBC
           have hnew : Rd (wB.alloc (.cells #[.int .i64 e.n, .int .i64 e.p, .int .i64 1, .int .i64 e.ep, .int .i64 z, .int .i64 (e.c : Int), .slice XB mx cB] 36)) (some ⟨wB.heap.size, 0, none⟩) 7 1 (mv (⟨e.n, e.p, 1, e.ep, z, e.c, d⟩, .slice XB mx cB)) := Rd.new wB (ma ⟨e.n, e.p, 1, e.ep, z, e.c, d⟩ (.slice XB mx cB)) _ (0, 0) (sz := 7) (n := 1) rfl
           have hbasC : w.heap.size ≤ (wB.alloc (.cells #[.int .i64 e.n, .int .i64 e.p, .int .i64 1, .int .i64 e.ep, .int .i64 z, .int .i64 (e.c : Int), .slice XB mx cB] 36)).heap.size := by simp; omega)
        | (refine step_app _ rfl (.tmp 18) (.tmp 46) _ rfl w.heap.size 36 i0 _ 7 72 Try.underlying42 hi0' hz0 hz1 Hz.out rfl (by omega) (.slice A1 np c1') np (mvs P) rfl hrowC _ 1 1 (mv (⟨e.n, e.p, 1, e.ep, z, e.c, d⟩, .slice XB mx cB)) rfl (by simp) hnew (mv_one _ _ _ _) (by unfold maxLen; omega) (by omega) hbasC ?_
           intro vD wD hownD hgD hatD
           have hBD : Below w.heap.size w wD := (hB.trans (hBC.mono hsz)).grown hgD hbasC (fun j q => (hrowC.lt j q).1)
           have hkD := (HX.out.keep hBD).blk
           obtain ⟨x0, x1, x2, x3, _, x5, _⟩ := ra_cells hkD
           have xx := (hBD.cell (cell_lt hcx0)).trans hcx0))
      all_goals (
        have hownC := (own_keep hownB hbC).mono (base' := w.heap.size) (by have : wr.heap.size = wr.drew.heap.size := rfl; omega)
        have hPC := HP.out.keep hBC
        have HBD := Lib.hid hBD
        have HPD := Lib.hid (hPC.push (m := ⟨e.n, e.p, 1, e.ep, z, e.c, d⟩) hgD (by rw [Hnp.out]; exact hownD) (Nat.le_refl _) (by rw [← Hml.out]; exact hownC) (by rw [← HM.out]; exact fit_load HX.out.ok (by omega) hc (by have := HQ.out; omega)) (by rw [← Hml.out]; exact hm12))
        clear hownC hPC hBD hownD hgD hatD hownB hgB hatB hbB hbC hBC hkB b0 b1 b2 b3 b5 bx x0 x1 x2 x3 x5 xx hkD hrowC hnew hbasC
        go_wp2
        refine ⟨⟨i + 1, _, by omega, by omega, congrArg (Value.int .i64) (by have := HZ.out; omega), HPD.out, ?_, HBD.out⟩, by have := HZ.out; simp [intOf]; omega⟩
        rw [List.map_append, HPl.out, show i + 1 - a0 = (i - a0) + 1 by omega, openL_take, show e.a + (i - a0) = i by have := Ha.out; omega, HM.out]; rfl)
    · have hil : ¬ (i : Int) < (n : Int) := by omega
      have hie : i = n := by omega
      subst hie
      have f6 := hbk.free 6
      by_cases h0 : np = 0
      · subst h0
        have hPe : P = [] := List.eq_nil_of_length_eq_zero Hnp.out
        have hle : e.l.length ≤ e.a := by have := HQ.out; have := Ha.out; have := HNI.out; omega
        cases ho : e.o with
        | true =>
          rw [ho] at d6
          have HS := Lib.hid (show stpL e = [ackM e] by unfold stpL; rw [if_pos hle, if_pos ho])
          clear ho
          have hbC : Below wr.heap.size wr (wr.drew.alloc (.cells #[.int .i64 e.n, .int .i64 e.p, .int .i64 2, .int .i64 e.ep, .int .i64 0, .int .i64 (e.c : Int), .slice none 0 0] 36)) := (below_drew (Below.refl _ _)).alloc (Nat.le_refl _) _
          have hrowC := own_keep hrow hbC
          have hnew : Rd (wr.drew.alloc (.cells #[.int .i64 e.n, .int .i64 e.p, .int .i64 2, .int .i64 e.ep, .int .i64 0, .int .i64 (e.c : Int), .slice none 0 0] 36)) (some ⟨wr.heap.size, 0, none⟩) 7 1 (mv (ackM e, .slice none 0 0)) := Rd.new wr.drew (ma (ackM e) (.slice none 0 0)) _ (0, 0) (sz := 7) (n := 1) rfl
          have hbasC : w.heap.size ≤ (wr.drew.alloc (.cells #[.int .i64 e.n, .int .i64 e.p, .int .i64 2, .int .i64 e.ep, .int .i64 0, .int .i64 (e.c : Int), .slice none 0 0] 36)).heap.size := by have := hbC.size; omega
          go_wp2_with fail
          go_region_held3 (fun w2 => w2.cell? ⟨r, 0, none⟩ = some (.int .i64 e.n) ∧ w2.cell? ⟨r, 1, none⟩ = some (.int .i64 e.p) ∧ w2.cell? ⟨r, 2, none⟩ = some (.int .i64 e.ep) ∧ w2.cell? ⟨r, 5, none⟩ = some (.int .i64 (e.c : Int)))
            (first | go_keep | exact ⟨d0, d1, d2, d5⟩ | exact ⟨x0, x1, x2, x5⟩)
            (first
            | (refine step_app _ rfl (.tmp 57) (.tmp 75) _ rfl w.heap.size 36 i0 _ 7 72 Try.underlying42 hi0' hz0 hz1 Hz.out rfl (by omega) (.slice A1 0 c1') 0 (mvs P) rfl hrowC _ 1 1 (mv (ackM e, .slice none 0 0)) rfl (by simp) hnew (mv_one _ _ _ _) (by unfold maxLen; omega) (by omega) hbasC ?_
               intro vD wD hownD hgD hatD
               have hBD : Below w.heap.size w wD := (hB.trans (hbC.mono hsz)).grown hgD hbasC (fun j q => (hrowC.lt j q).1)
               have hXD := HX.out.keep hBD
               obtain ⟨x0, x1, x2, _, _, x5, _⟩ := ra_cells hXD.blk
               have j6 := hXD.blk.cell (j := 6) (u := .bool e.o) rfl
               have p6 := hXD.blk.free 6))
          all_goals (
            have HXD := Lib.hid hXD
            have HBD := Lib.hid hBD
            have HownD := Lib.hid hownD
            clear hXD hBD hownD hgD hatD hbC hrowC hnew hbasC hbk x0 x1 x2 x5
            go_wp2
            go_ret
            refine ⟨vD, [(ackM e, .slice none 0 0)], rfl, ?_, by rw [HS.out]; rfl, ⟨_, _, _, _, HXD.out.setO false⟩, fu_set1 (Fu.ofBelow HBD.out) 6 _⟩
            have h9 : Prw wD w.heap.size vD [(ackM e, .slice none 0 0)] := ⟨by subst hPe; exact HownD.out, fun p hp => by
                rw [List.mem_singleton.1 hp]
                exact ⟨own_nil _ _ _ _, fit_ack HX.out.ok hc, by simp [ackM]⟩⟩
            exact h9.fu (S := fun k => k = r) (fu_set1 (Fu.refl _ _) 6 _) (fun k hk _ q => by omega))
        | false =>
          rw [ho] at d6
          have HS := Lib.hid (show stpL e = [] by unfold stpL; rw [if_pos hle, if_neg (by rw [ho]; simp)])
          clear ho
          go_wp2
          go_ret
          refine ⟨_, [], rfl, ?_, by rw [HS.out]; rfl, ⟨_, _, _, _, HXr.out.setO false⟩, fu_set1 (Fu.ofBelow hB) 6 _⟩
          subst hPe
          exact HP.out.fu (S := fun k => k = r) (fu_set1 (Fu.refl _ _) 6 _) (fun k hk _ q => by omega)
      · have t0 : ((np : Int) == 0) = false := by simpa using h0
        have HS := Lib.hid (show stpL e = openL e by unfold stpL; rw [if_neg (by have := HQ.out; have := Ha.out; have := HNI.out; omega)])
        go_wp2
        go_ret
        refine ⟨_, P, rfl, ?_, ?_, ⟨_, _, _, _, HXr.out.setO false⟩, fu_set1 (Fu.ofBelow hB) 6 _⟩
        · exact HP.out.fu (S := fun k => k = r) (fu_set1 (Fu.refl _ _) 6 _) (fun k hk _ q => by omega)
        · rw [HPl.out, HS.out, openL, ← HQ.out, ← Ha.out]
end
end Ses
end Go.Proofs.Ytlmaelbalmjlbaa
