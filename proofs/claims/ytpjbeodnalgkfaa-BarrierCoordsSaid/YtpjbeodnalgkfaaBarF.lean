/- Layer 17: what a coordinator does: answered, Begin, Hear, Abort, Crash. -/
import Derived.Test.YtpjbeodnalgkfaaBarE
set_option linter.all false
namespace Go.Proofs.Ytpjbeodnalgkfaa
open Go.RowKit
namespace Bar
theorem Op.own {w : World} {B n cp : Nat} {U : Nat → Prop} {A : Option Addr} {L : List Int} (h : w.ownsRow B 3 1 (.slice A n cp) n (ivs L)) (hc : n ≤ cp) (hm : cp ≤ maxLen) (hU : ∀ k, B ≤ k → U k) : Op w U A n cp L :=
  ⟨rd_own h, hc, by unfold maxLen at hm; exact hm, fun a e => by
    have := h.lt a.block (by rw [e]; rfl)
    exact ⟨hU _ this.1, this.2⟩⟩
/-- Where it comes to stand. -/
def CdTo (w w' : World) (g : Nat) (U : Nat → Prop) (c : Co) : Prop := (∃ A n cp, CdX w' g (fun k => U k ∨ w.heap.size ≤ k) c A n cp) ∧ Fu (fun k => k = g ∨ k = g + 1) w w'
theorem CdTo.same {w : World} {g : Nat} {U : Nat → Prop} {c : Co} {A : Option Addr} {n cp : Nat} (h : CdX w g U c A n cp) : CdTo w w g U c :=
  ⟨⟨A, n, cp, h.sub (fun k hk _ => .inl hk) ⟨fun q => q.elim h.out.1 (fun q => by have := h.blk.lt; omega), fun q => q.elim h.out.2 (fun q => by have := h.blk.lt; omega)⟩⟩, Fu.refl _ _⟩
/-- Behind enter. -/
theorem CdTo.entered {w w1 w' : World} {g n : Nat} {U : Nat → Prop} {c : Co} {A : Option Addr} {m cp : Nat} (h : CdX w g U c A m cp) (hF1 : Fu (fun k => k = g ∨ k = g + 1) w w1) (hm1 : Mp w1 g (c.cm.length + c.ab.length) (endF c)) (x : Int) (hx : I64 x) {p : Int} (hp : 0 < p) (hn : n = c.ans.length) {v' : Value} (hb : Blk w' (g + 1) 80 (coa g n p x v')) (hown : w'.ownsRow w1.heap.size 3 1 v' n (ivs (toN n))) (hF : Fu (fun k => k = g + 1) w1 w') : CdTo w w' g U (turnC { c with id := x } p) := by
  subst hn
  obtain ⟨A', c', rfl, h1, h2, h3⟩ := own_form hown
  have hlt := h.blk.lt
  have hs := hF1.size
  refine ⟨⟨A', c.ans.length, c', ?_, ?_, ?_, ⟨fun q => q.elim h.out.1 (by omega), fun q => q.elim h.out.2 (by omega)⟩, hx⟩, hF1.then hF (fun j q => .inl (.inr q))⟩
  · simpa [turnC] using hb
  · exact hm1.fu hF (by omega)
  · rw [openI_turn _ hp]
    exact Op.own hown h1 h2 (fun k hk => .inr (by omega))
section
variable (w : World)
set_option maxRecDepth 100000 in
set_option maxHeartbeats 4000000 in
theorem answered_ (g : Nat) (U : Nat → Prop) (c : Co) (A : Option Addr) (n cp : Nat) (h : CdX w g U c A n cp) (hok : CoOk c) (hfew : Few c) (h0 : 0 < c.ph) (i : Nat) (hi : i < c.ans.length) :
    Calls Try.prog 48 #[.pointer (some ⟨g + 1, 0, none⟩), .int .i64 (i : Int)] w fun e w' => e = .returned (.tuple #[]) ∧ CdTo w w' g U (if (setC c (i : Int)).ans.all (fun b => b) then goOn (setC c (i : Int)) else setC c (i : Int)) := by
  have hn16 : n ≤ 16 := by have := h.opn.is.len; have := openI_len c; have := hfew.2; omega
  have hw := without_ w A n cp (openI c) h.opn.is hn16 (i : Int)
  rw [← openI_set hi] at hw
  obtain ⟨c0, c1, c2, c3, c4, c5⟩ := h.cells
  have hgl := h.blk.lt
  have hsl : (openI (setC c (i : Int))).length ≤ 16 := by have h1 := openI_len (setC c (i : Int)); have h2 := hfew.2; have h3 : (setC c (i : Int)).ans.length = c.ans.length := (by simp [setC]); omega
  have hall := open_nil (c := setC c (i : Int)) h0
  have H := Lib.hid h
  obtain ⟨L, hL⟩ : ∃ L, openI (setC c (i : Int)) = L := ⟨_, rfl⟩
  rw [hL] at hw hsl hall
  have HL := Lib.hid hL
  obtain ⟨m, hm⟩ : ∃ m, L.length = m := ⟨_, rfl⟩
  rw [hm] at hw hsl
  have Hm := Lib.hid hm
  have hblk := h.blk
  clear hL hm h
  by_cases hne : L = []
  · have hm0 : m = 0 := by rw [← Hm.out, hne]; rfl
    subst hm0
    rw [if_pos (hall.1 hne), go_set]
    have hid0 := hok.new h0
    by_cases h3 : c.ph < 3
    · have HG := Lib.hid (show goOn c = turnC { c with id := c.id } (c.ph + 1) by unfold goOn; rw [if_pos h3])
      rcases (show c.ph = 1 ∨ c.ph = 2 by omega) with hp | hp
      · have HP := Lib.hid hp
        rw [hp] at c2
        rw [hp] at HG
        clear hall hne hid0 h3 hp
        go_enter Try.func48, Try.ntmps48
        go_wp2_with fail
        refine hw.mono ?_
        rintro r w1 ⟨v1, rfl, hown1, hb1⟩
        have hk1 := hblk.keep hb1
        have k4 := hk1.cell (j := 4) (u := .slice A n cp) rfl
        have k2 := hk1.cell (j := 2) (u := .int .i64 c.ph) rfl
        rw [HP.out] at k2
        have f4 := hk1.free 4
        obtain ⟨A1, cp1, rfl, hc1, hm1, hn1⟩ := own_form hown1
        have hk2 : Blk (w1.setCell ⟨g + 1, 4, none⟩ (.slice A1 0 cp1)) (g + 1) 80 (coa g c.ans.length c.ph c.id (.slice A1 0 cp1)) := by
          have := hk1.setCell 4 (.slice A1 0 cp1)
          simpa using this
        have hF2 : Fu (fun k => k = g ∨ k = g + 1) w (w1.setCell ⟨g + 1, 4, none⟩ (.slice A1 0 cp1)) := fu_set (Fu.ofBelow hb1) _ _ _ (.inr rfl)
        have hM2 : Mp (w1.setCell ⟨g + 1, 4, none⟩ (.slice A1 0 cp1)) g (c.cm.length + c.ab.length) (endF c) := (H.out.mp.fu (S := fun _ => False) (Fu.ofBelow hb1) (fun q => q)).fu (S := fun k => k = g + 1) (fu_set (S := fun k => k = g + 1) (Fu.refl _ _) _ _ _ rfl) (by omega)
        have HE := Lib.hid (enter_ _ g c.ans.length c.ph c.id (.slice A1 0 cp1) hk2 hfew.2 2)
        have HF2 := Lib.hid hF2
        have HM2 := Lib.hid hM2
        clear hw hk1 hown1 hk2 hF2 hM2 c0 c1 c3 c5
        go_wp2_with fail
        refine HE.out.mono ?_
        rintro r w3 ⟨rfl, v3, hb3, ho3, hF3⟩
        go_wp2
        go_end0
        rw [HG.out]
        exact ⟨rfl, CdTo.entered H.out HF2.out HM2.out c.id H.out.idr (by decide) rfl hb3 ho3 hF3⟩
      · have HP := Lib.hid hp
        rw [hp] at c2
        rw [hp] at HG
        clear hall hne hid0 h3 hp
        go_enter Try.func48, Try.ntmps48
        go_wp2_with fail
        refine hw.mono ?_
        rintro r w1 ⟨v1, rfl, hown1, hb1⟩
        have hk1 := hblk.keep hb1
        have k4 := hk1.cell (j := 4) (u := .slice A n cp) rfl
        have k2 := hk1.cell (j := 2) (u := .int .i64 c.ph) rfl
        rw [HP.out] at k2
        have f4 := hk1.free 4
        obtain ⟨A1, cp1, rfl, hc1, hm1, hn1⟩ := own_form hown1
        have hk2 : Blk (w1.setCell ⟨g + 1, 4, none⟩ (.slice A1 0 cp1)) (g + 1) 80 (coa g c.ans.length c.ph c.id (.slice A1 0 cp1)) := by
          have := hk1.setCell 4 (.slice A1 0 cp1)
          simpa using this
        have hF2 : Fu (fun k => k = g ∨ k = g + 1) w (w1.setCell ⟨g + 1, 4, none⟩ (.slice A1 0 cp1)) := fu_set (Fu.ofBelow hb1) _ _ _ (.inr rfl)
        have hM2 : Mp (w1.setCell ⟨g + 1, 4, none⟩ (.slice A1 0 cp1)) g (c.cm.length + c.ab.length) (endF c) := (H.out.mp.fu (S := fun _ => False) (Fu.ofBelow hb1) (fun q => q)).fu (S := fun k => k = g + 1) (fu_set (S := fun k => k = g + 1) (Fu.refl _ _) _ _ _ rfl) (by omega)
        have HE := Lib.hid (enter_ _ g c.ans.length c.ph c.id (.slice A1 0 cp1) hk2 hfew.2 3)
        have HF2 := Lib.hid hF2
        have HM2 := Lib.hid hM2
        clear hw hk1 hown1 hk2 hF2 hM2 c0 c1 c3 c5
        go_wp2_with fail
        refine HE.out.mono ?_
        rintro r w3 ⟨rfl, v3, hb3, ho3, hF3⟩
        go_wp2
        go_end0
        rw [HG.out]
        exact ⟨rfl, CdTo.entered H.out HF2.out HM2.out c.id H.out.idr (by decide) rfl hb3 ho3 hF3⟩
    · have HG := Lib.hid (show goOn c = endsC c by unfold goOn; rw [if_neg h3])
      have hN : endF c c.id = none := endF_none hok h0
      have hidI : I64 c.id ∨ True := .inr trivial
      have t1 : (c.ph == 1) = false := by simp; omega
      have t2 : (c.ph == 2) = false := by simp; omega
      have hEF := Lib.hid (endF_ends hok h0)
      have hph := hok.ph
      have HU := Lib.hid (show outC c = if c.ph = 3 then 2 else 3 by
        unfold outC
        by_cases q : c.ph = 3
        · rw [if_pos q, if_pos q]
        · rw [if_neg q, if_neg q, if_pos (by omega)])
      have hidI := H.out.idr
      obtain ⟨ph, hph'⟩ : ∃ p, c.ph = p := ⟨_, rfl⟩
      obtain ⟨x, hx'⟩ : ∃ x, c.id = x := ⟨_, rfl⟩
      obtain ⟨oc, hoc⟩ : ∃ x, outC c = x := ⟨_, rfl⟩
      have hocI : I64 oc := by rw [← hoc]; unfold outC I64; split <;> (try split) <;> omega
      have HPH := Lib.hid hph'
      have HX := Lib.hid hx'
      rw [hph'] at t1 t2 c2
      rw [hx'] at hN hidI
      have hO : ∀ W, W.cell? ⟨g + 1, 2, none⟩ = some (.int .i64 ph) → Calls Try.prog 50 #[.pointer (some ⟨g + 1, 0, none⟩)] W fun e w' => e = .returned (.int .i64 oc) ∧ W = w' := fun W hW => by
        have := outcome_ W (g + 1) ph hW
        rwa [show (if ph = 3 then 2 else if ph = 4 then 3 else 1) = oc by rw [← hoc, ← hph']; rfl] at this
      have HEF := Lib.hid (show ∀ j, endF (endsC c) j = if j = x then some oc else endF c j from fun j => by rw [hEF.out, hx', ← hoc, HU.out])
      have hk5 : c.cm.length + c.ab.length ≤ 100000 := by have := hfew.1; omega
      have HG2 := Lib.hid (ends_count c)
      have HG3 := Lib.hid (ends_ph c)
      clear hall hne hid0 h3 hph hph' hx' hoc hEF HU h0 hok c0 c1 c3 c5
      go_enter Try.func48, Try.ntmps48
      go_wp2_with fail
      refine hw.mono ?_
      rintro r w1 ⟨v1, rfl, hown1, hb1⟩
      have hk1 := hblk.keep hb1
      have k4 := hk1.cell (j := 4) (u := .slice A n cp) rfl
      have f4 := hk1.free 4
      obtain ⟨A1, cp1, rfl, hc1, hm1, hn1⟩ := own_form hown1
      have hk2 : Blk (w1.setCell ⟨g + 1, 4, none⟩ (.slice A1 0 cp1)) (g + 1) 80 (coa g c.ans.length ph x (.slice A1 0 cp1)) := by
        have := hk1.setCell 4 (.slice A1 0 cp1)
        rw [HPH.out, HX.out] at this
        simpa using this
      have hF2 : Fu (fun k => k = g ∨ k = g + 1) w (w1.setCell ⟨g + 1, 4, none⟩ (.slice A1 0 cp1)) := fu_set (Fu.ofBelow hb1) _ _ _ (.inr rfl)
      have hM2 : Mp (w1.setCell ⟨g + 1, 4, none⟩ (.slice A1 0 cp1)) g (c.cm.length + c.ab.length) (endF c) := (H.out.mp.fu (S := fun _ => False) (Fu.ofBelow hb1) (fun q => q)).fu (S := fun k => k = g + 1) (fu_set (S := fun k => k = g + 1) (Fu.refl _ _) _ _ _ rfl) (by omega)
      have k5 := hk1.cell (j := 5) (u := .map (some g)) rfl
      have k3 := hk1.cell (j := 3) (u := .int .i64 c.id) rfl
      have k2 := hk1.cell (j := 2) (u := .int .i64 c.ph) rfl
      rw [HX.out] at k3
      rw [HPH.out] at k2
      have hd : Fu (fun _ => False) (w1.setCell ⟨g + 1, 4, none⟩ (.slice A1 0 cp1)) (w1.setCell ⟨g + 1, 4, none⟩ (.slice A1 0 cp1)).drew := (Fu.refl _ _).drew
      obtain ⟨w3, hst, hs3, hg3⟩ := (hM2.fu hd (fun q => q)).store (c' := endF (endsC c)) hk5 hidI hocI hN HEF.out
      have hb3 := (blk_fu hk2 hd (fun q => q)).grown hg3 (by simp)
      have d5 := hk2.cell (j := 5) (u := .map (some g)) rfl
      have d3 := hk2.cell (j := 3) (u := .int .i64 x) rfl
      have d2 := hk2.cell (j := 2) (u := .int .i64 ph) rfl
      have e5 := hb3.cell (j := 5) (u := .map (some g)) rfl
      have e3 := hb3.cell (j := 3) (u := .int .i64 x) rfl
      have e2 := hb3.cell (j := 2) (u := .int .i64 ph) rfl
      have f2 := hb3.free 2
      have f3 := hb3.free 3
      have hF3 : Fu (fun k => k = g ∨ k = g + 1) w w3 := hF2.drew.step hg3 (fun j q => .inl (.inl (by injection q with q; exact q.symm)))
      have HB3 := Lib.hid hb3
      have HS3 := Lib.hid hs3
      have HF3 := Lib.hid hF3
      have hs31 : w1.heap.size ≤ w3.heap.size := by have := hg3.size; simpa [World.setCell] using this
      have HA1 := Lib.hid (show ∀ a, A1 = some a → w.heap.size ≤ a.block ∧ a.block < w1.heap.size from fun a ea => hown1.lt a.block (by rw [ea]; rfl))
      have d2d : (w1.setCell ⟨g + 1, 4, none⟩ (.slice A1 0 cp1)).drew.cell? ⟨g + 1, 2, none⟩ = some (.int .i64 ph) := d2
      clear hw hk1 hk2 hM2 hF2 hb3 hs3 hF3 hown1 hg3 hd hN
      go_wp2_with fail
      go_region_held3 (fun w' => w'.cell? ⟨g + 1, 5, none⟩ = some (.map (some g)) ∧ w'.cell? ⟨g + 1, 3, none⟩ = some (.int .i64 x) ∧ w'.cell? ⟨g + 1, 2, none⟩ = some (.int .i64 ph))
        (first | go_keep | exact ⟨d5, d3, d2⟩ | exact ⟨e5, e3, e2⟩)
        (first | (go_at_call 50; refine (hO _ d2d).mono ?_; rintro r w' ⟨rfl, rfl⟩))
      clear k5 k3 k2 k4 d5 d3 d2 hst
      go_wp2
      go_end0
      rw [HG.out]
      refine ⟨rfl, ⟨A1, 0, cp1, ?_, ?_, ?_, ⟨fun q => q.elim H.out.out.1 (by omega), fun q => q.elim H.out.out.2 (by omega)⟩, ?_⟩, fu_set (fu_set HF3.out _ _ _ (.inr rfl)) _ _ _ (.inr rfl)⟩
      · rw [HG3.out.1, HG3.out.2.1, HG3.out.2.2]
        have := (HB3.out.setCell 2 (.int .i64 0)).setCell 3 (.int .i64 0)
        simpa using this
      · rw [HG2.out]
        exact HS3.out.fu (S := fun k => k = g + 1) (fu_set (S := fun k => k = g + 1) (fu_set (S := fun k => k = g + 1) (Fu.refl _ _) _ _ _ rfl) _ _ _ rfl) (by omega)
      · rw [openI_zero HG3.out.1]
        refine ⟨Is.nil, by omega, by unfold maxLen at hm1; omega, fun a ea => ?_⟩
        obtain ⟨q1, q2⟩ := HA1.out a ea
        exact ⟨.inr q1, by simp [World.setCell]; omega⟩
      · rw [HG3.out.2.1]; unfold I64; omega
  · have hm0 : 0 < m := by
      rw [← Hm.out]
      exact List.length_pos_iff.2 hne
    have hmi : (0 : Int) < (m : Int) := by omega
    rw [if_neg (fun q => hne (hall.2 q))]
    clear hall hne
    go_enter Try.func48, Try.ntmps48
    go_wp2_with fail
    refine hw.mono ?_
    rintro r w1 ⟨v1, rfl, hown1, hb1⟩
    have hk1 := hblk.keep hb1
    have k4 := hk1.cell (j := 4) (u := .slice A n cp) rfl
    have f4 := hk1.free 4
    obtain ⟨A1, cp1, rfl, hc1, hm1, hn1⟩ := own_form hown1
    have hk2 : Blk (w1.setCell ⟨g + 1, 4, none⟩ (.slice A1 m cp1)) (g + 1) 80 (coa g c.ans.length c.ph c.id (.slice A1 m cp1)) := by
      have := hk1.setCell 4 (.slice A1 m cp1)
      simpa using this
    have hF2 : Fu (fun k => k = g ∨ k = g + 1) w (w1.setCell ⟨g + 1, 4, none⟩ (.slice A1 m cp1)) := fu_set (Fu.ofBelow hb1) _ _ _ (.inr rfl)
    have hM2 : Mp (w1.setCell ⟨g + 1, 4, none⟩ (.slice A1 m cp1)) g (c.cm.length + c.ab.length) (endF c) := (H.out.mp.fu (S := fun _ => False) (Fu.ofBelow hb1) (fun q => q)).fu (S := fun k => k = g + 1) (fu_set (S := fun k => k = g + 1) (Fu.refl _ _) _ _ _ rfl) (by omega)
    have hap := blk_ne2 hk1 hown1 (by decide)
    have ho2 := own_grown hown1 (grown_setCell w1 ⟨g + 1, 4, none⟩ (.slice A1 m cp1)) (fun k hk q => by injection q with q; exact hap (hk.trans (congrArg some q)))
    have HK := Lib.hid hk2
    have HF := Lib.hid hF2
    have HM := Lib.hid hM2
    have HO := Lib.hid ho2
    clear hw hk1 hk2 hF2 hM2 ho2 hown1
    go_wp2
    refine bodyPost_ret (results_none rfl _ _ _) rfl ?_
    refine ⟨rfl, ⟨A1, m, cp1, ?_, HM.out, ?_, ⟨fun q => q.elim H.out.out.1 (by omega), fun q => q.elim H.out.out.2 (by omega)⟩, H.out.idr⟩, HF.out⟩
    · have := HK.out
      simpa [setC] using this
    · rw [HL.out]
      exact Op.own HO.out hc1 hm1 (fun k hk => .inr hk)
end
end Bar
end Go.Proofs.Ytpjbeodnalgkfaa
