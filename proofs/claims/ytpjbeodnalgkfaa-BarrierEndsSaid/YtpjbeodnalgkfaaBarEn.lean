/- Layer 17: in fair rounds a snapshot comes to its end (BarrierEnds). No condition. -/
import Derived.Test.YtpjbeodnalgkfaaBarPr
set_option linter.all false
namespace Go.Proofs.Ytpjbeodnalgkfaa
open Go.ChangeShapes Go.WideShapes Go.ChangeAt Go.RowKit
namespace Bar
theorem inv_less {W : Wd} (h : Inv W) : Inv { { W with os := [] } with ax := [] } := ⟨h.co, h.n, h.ids, h.ag, h.cmt, h.all, h.fin, (fun _ q => by cases q), (fun _ q => by cases q), h.an⟩
theorem lim_less {N : Nat} {W : Wd} (h : Lim N W) : Lim N { { W with os := [] } with ax := [] } := ⟨by simp, by simp, h.ids, h.cm, h.g, (fun _ q => by cases q), h.idsI, h.n⟩
theorem lim_fone {N : Nat} {W : Wd} (h : Lim N W) (o : Odr) {i : Nat} (hi : o.a = (i : Int)) (hlt : i < W.g.length) : Lim (N + 1) (fone W o) := by
  have hl : (W.g.set o.a.toNat (ordS (W.g.getD o.a.toNat ag0) o.k o.id)).length = W.g.length := List.length_set
  have hi' : o.a.toNat = i := by omega
  refine ⟨h.os, h.ax, Nat.le_succ_of_le h.ids, fun a ha => ?_, by show (W.g.set _ _).length ≤ 5; rw [hl]; exact h.g, h.osI, h.idsI, by show (hearS W.c _ _ _).ans.length = (W.g.set _ _).length; rw [hl, hear_len]; exact h.n⟩
  have ha : a ∈ W.g.set o.a.toNat (ordS (W.g.getD o.a.toNat ag0) o.k o.id) := ha
  rcases List.mem_or_eq_of_mem_set ha with q | q
  · exact Nat.le_succ_of_le (h.cm a q)
  · rw [q]
    exact Nat.le_trans (cm_len _ _ _) (Nat.succ_le_succ (h.cm _ (List.mem_of_getElem? (getD_some (by rw [hi']; exact hlt)))))
theorem Lim.mono {N M : Nat} {W : Wd} (h : Lim N W) (hNM : N ≤ M) : Lim M W := ⟨h.os, h.ax, Nat.le_trans h.ids hNM, fun a ha => Nat.le_trans (h.cm a ha) hNM, h.g, h.osI, h.idsI, h.n⟩
theorem fold_ids (l : List Odr) (W : Wd) : (l.foldl fone W).ids = W.ids := by
  induction l generalizing W with
  | nil => rfl
  | cons o l ih => rw [List.foldl_cons, ih]; rfl
theorem fold_len (l : List Odr) (W : Wd) : (l.foldl fone W).g.length = W.g.length := by
  induction l generalizing W with
  | nil => rfl
  | cons o l ih => rw [List.foldl_cons, ih, fone_len]
theorem inv_part {W : Wd} (h : Inv W) (j : Nat) : Inv (((stepL W.c).take j).foldl fone W) :=
  (inv_fold _ h (fun o ho => by
    obtain ⟨h1, i, h2, h3, _⟩ := step_os h o (List.mem_of_mem_take ho)
    exact ⟨h1, i, h2, h3⟩)).1
section
variable (w : World)
set_option maxRecDepth 100000 in
set_option maxHeartbeats 8000000 in
theorem barrierEnds_walk (k0 : Nat) (hk0 : k0 < 256) (A : Option Addr) (n c : Nat) (l : List Dod) (h : DoL w A n l) (hnc : n ≤ c) (hc : c * 24 ≤ 140737488351232) :
    Calls Try.prog 6 #[.int .u8 (k0 : Int), .slice A n c] w fun r w' => r = .returned (.bool true) ∧ Below w.heap.size w w' := by
  obtain ⟨q, hq⟩ : ∃ q, min n 400 = q := ⟨_, rfl⟩
  have hqi : min (n : Int) 400 = (q : Int) := by omega
  have hqn : q ≤ n := by omega
  have hq4 : q ≤ 400 := by omega
  have hqni : (q : Int) ≤ (n : Int) := by omega
  have hqci : (q : Int) ≤ (c : Int) := by omega
  have hq0 : (0 : Int) ≤ (q : Int) := by omega
  have HD := Lib.hid h
  have hk1 : 1 ≤ k0 % 5 + 1 := by omega
  have hk5 : k0 % 5 + 1 ≤ 5 := by omega
  have hBgn := wbegin_ w k0 hk0
  obtain ⟨K, hK⟩ : ∃ K, k0 % 5 + 1 = K := ⟨_, rfl⟩
  rw [hK] at hk1 hk5 hBgn
  clear hq h hK
  go_enter Try.func6, Try.ntmps6
  go_wp2_with fail
  refine hBgn.mono ?_
  rintro r w1 ⟨wb, cg, gs, av, rfl, h1, hB1⟩
  obtain ⟨a, ha⟩ : ∃ a, w.heap.size = a := ⟨_, rfl⟩
  have Ha := Lib.hid ha
  rw [ha] at h1 hB1
  have hs1 : a ≤ w1.heap.size := by rw [← ha]; exact hB1.size
  clear ha hBgn
  go_wp2_with fail
  refine (alive_ w1).mono ?_
  rintro r w2 ⟨rfl, hb2⟩
  have h2 := h1.keep hb2
  have hB2 : Below a w w2 := hB1.trans (hb2.mono hs1)
  clear h1 hB1 hb2 hs1
  go_wp2_with fail
  go_loopw [34] (fun iv wr => ∃ (i : Nat) (W : Wd) (ov xv jv : Value), i ≤ q ∧ iv = .int .i64 (i : Int) ∧ WmX wr a (fun _ => False) wb cg gs av ov xv jv W ∧ Hid (Inv W) ∧ Hid (Lim i W) ∧ Below a w wr) (fun iv _ => q - (intOf iv).toNat)
  case atStart => exact ⟨0, _, _, _, _, Nat.zero_le _, rfl, h2, Lib.hid (inv0 hk1), Lib.hid (lim0 hk5), hB2⟩
  case round =>
    obtain ⟨i, W, ov, xv, jv, hi, rfl, hW, hI, hL, hB⟩ := hrel
    clear h2 hB2
    by_cases hlt : i < q
    · have hil : (i : Int) < (q : Int) := by omega
      have hi0 : (0 : Int) ≤ (i : Int) := by omega
      obtain ⟨ba, oa, d, rfl, hl, hF, hcs⟩ := HD.out.at_ i (by omega)
      have hBw : Below w.heap.size w wr := by rw [Ha.out]; exact hB
      have d0 : wr.cell? ⟨ba, oa + i * 3, none⟩ = some (.int .u8 (d.kd : Int)) := (hBw.cell (cell_lt (hcs 0 _ rfl))).trans (hcs 0 _ rfl)
      have d1 : wr.cell? ⟨ba, oa + i * 3 + 1, none⟩ = some (.int .i64 d.id) := (hBw.cell (cell_lt (hcs 1 _ rfl))).trans (hcs 1 _ rfl)
      have d2 : wr.cell? ⟨ba, oa + i * 3 + 2, none⟩ = some (.int .i64 d.i) := (hBw.cell (cell_lt (hcs 2 _ rfl))).trans (hcs 2 _ rfl)
      have hba : Below wr.heap.size wr (wr.alloc (.cells (doa d) 66)) := (Below.refl _ _).alloc (Nat.le_refl _) _
      have hbd : Blk (wr.alloc (.cells (doa d) 66)) wr.heap.size 66 (doa d) := Blk.new wr _ _ rfl
      have har : a ≤ wr.heap.size := by have := hB.size; rw [Ha.out] at this; exact this
      have h4 := hW.keep hba
      have hB4 := hB.trans (hba.mono har)
      have hw4s : (wr.alloc (.cells (doa d) 66)).heap.size = wr.heap.size + 1 := by simp
      have hLim2 := Lib.hid (Lim.do hL.out hW.co.idr d hF.id)
      have hInv2 := Lib.hid (inv_do hI.out d)
      clear hba hcs hBw hl
      have hDo := wdo_ (wr.alloc (.cells (doa d) 66)) a (fun _ => False) wb cg gs av ov xv jv W h4 hL.out (by omega) d hF
      go_wp2_with fail
      refine hDo.mono ?_
      rintro r w5 ⟨ov5, xv5, jv5, rfl, h5, hb5⟩
      have hB5 := hB4.trans (hb5.below (by rw [hw4s]; omega))
      clear hDo hB4 hb5 hW hB d0 d1 d2 hbd h4
      go_wp2
      go_roundw
      case rel => exact ⟨i + 1, _, ov5, xv5, jv5, by omega, by go_num, h5, hInv2, hLim2, hB5⟩
      case measure => simp [intOf]; omega
    · have he : i = q := by omega
      subst he
      have hil : ¬ (i : Int) < (i : Int) := by omega
      obtain ⟨c0, c1, c2, c3, c4⟩ := hW.cs
      have f2 := hW.blk.free 2
      have f3 := hW.blk.free 3
      obtain ⟨h6, hb6⟩ := hW.osTo (w2 := wr) (v' := .slice none 0 0) (l := []) (Fu.refl _ _) (own_nil _ _ _ _) (fun g e => by cases e)
      obtain ⟨h7, hb7⟩ := h6.axTo (w2 := wr.setCell ⟨wb, 2, none⟩ (.slice none 0 0)) (v' := .slice none 0 0) (l := []) (Fu.refl _ _) (own_nil _ _ _ _) (fun g e => by cases e)
      have har : a ≤ wr.heap.size := by have := hB.size; rw [Ha.out] at this; exact this
      have hB7 := hB.trans ((hb6.trans hb7).below har)
      have hI7 := Lib.hid (inv_less hI.out)
      have hL7 := Lib.hid (lim_less hL.out)
      have H7 := Lib.hid h7
      have HB7 := Lib.hid hB7
      have e3 : (wr.setCell ⟨wb, 2, none⟩ (.slice none 0 0)).cell? ⟨wb, 3, none⟩ = some xv := h6.cs.2.2.2.1
      have g3 : (wr.setCell ⟨wb, 2, none⟩ (.slice none 0 0)).frozen? ⟨wb, 3, none⟩ = false := h6.blk.free 3
      clear hW hB h6 hb6 h7 hb7 hB7 har
      obtain ⟨W0, hW0⟩ : ∃ V, ({ { W with os := [] } with ax := [] } : Wd) = V := ⟨_, rfl⟩
      rw [hW0] at H7 hI7 hL7
      clear hW0 hI hL
      obtain ⟨wo, hwo⟩ : ∃ wo : World, wo = wr := ⟨_, rfl⟩
      clear hwo
      go_wp2_with fail
      obtain ⟨w7, hw7⟩ : ∃ w7, (wr.setCell ⟨wb, 2, none⟩ (.slice none 0 0)).setCell ⟨wb, 3, none⟩ (.slice none 0 0) = w7 := ⟨_, rfl⟩
      rw [hw7] at H7 HB7 ⊢
      clear hw7 e3 g3 f2 f3 c0 c1 c2 c3 c4
      go_loopw [48] (fun rv w8 => ∃ (k : Nat), k ≤ 12 ∧ rv = .int .i64 (k : Int) ∧ WmX w8 a (fun _ => False) wb cg gs av (.slice none 0 0) (.slice none 0 0) jv (frounds k W0) ∧ Hid (Lim (i + 5 * k) (frounds k W0)) ∧ Below a w w8) (fun rv _ => 12 - (intOf rv).toNat)
      case atStart => exact ⟨0, by omega, rfl, H7.out, hL7, HB7.out⟩
      case round =>
        obtain ⟨w8, rfl⟩ : ∃ w8 : World, w8 = wr := ⟨_, rfl⟩
        obtain ⟨k, hk, rfl, hW, hL, hB⟩ := hrel
        have hI := Lib.hid (inv_rounds hI7.out k)
        clear H7 HB7
        by_cases hklt : k < 12
        · have hkl : (k : Int) < 12 := by omega
          have hk0 : (0 : Int) ≤ (k : Int) := by omega
          have HS := Lib.hid (frounds_succ k W0)
          obtain ⟨V, hV⟩ : ∃ V, frounds k W0 = V := ⟨_, rfl⟩
          rw [hV] at hW hL HS
          have hIV : Hid (Inv V) := Lib.hid (by have := hI.out.1; rwa [hV] at this)
          clear hI hV
          have hSt := cstep_ w8 cg _ V.c hW.co
          have HID := Lib.hid hW.co.idr
          have hso := Lib.hid (step_os hIV.out)
          obtain ⟨f0, _, _, _, _⟩ := hW.cs
          have hS5 : (stepL V.c).length ≤ 5 := by have := stepL_len V.c; have := hL.out.n; have := hL.out.g; omega
          obtain ⟨L, hLe⟩ : ∃ L, stepL V.c = L := ⟨_, rfl⟩
          have HLe := Lib.hid hLe
          rw [hLe] at hSt hso hS5
          obtain ⟨n5, hn5⟩ : ∃ n, L.length = n := ⟨_, rfl⟩
          rw [hn5] at hSt hS5
          have Hn5 := Lib.hid hn5
          have har : a ≤ w8.heap.size := by have := hB.size; rw [Ha.out] at this; exact this
          clear hLe hn5
          go_wp2_with fail
          refine hSt.mono ?_
          rintro r w9 ⟨v9, rfl, ho9, hb9⟩
          have h9 := hW.keep hb9
          have hB9 := hB.trans (hb9.mono har)
          obtain ⟨A9, c9, rfl, hc9, hm9, hn9⟩ := own_form ho9
          have ho9' := own_mono ho9 har
          clear hSt hW hB hb9 ho9 hm9 hn9 f0
          obtain ⟨wo2, hwo2⟩ : ∃ wo : World, wo = w8 := ⟨_, rfl⟩
          clear hwo2
          go_wp2_with fail
          go_loopw [56] (fun jv2 w6 => ∃ (j : Nat), j ≤ n5 ∧ jv2 = .int .i64 (j : Int) ∧ WmX w6 a (fun _ => False) wb cg gs av (.slice none 0 0) (.slice none 0 0) jv ((L.take j).foldl fone V) ∧ Hid (Lim (i + 5 * k + j) ((L.take j).foldl fone V)) ∧ Below a w w6 ∧ w6.ownsRow a 74 3 (.slice A9 n5 c9) n5 (ods L)) (fun jv2 _ => n5 - (intOf jv2).toNat)
          case atStart => exact ⟨0, Nat.zero_le _, rfl, h9, hL, hB9, ho9'⟩
          case round =>
            obtain ⟨w6, rfl⟩ : ∃ w6 : World, w6 = wr := ⟨_, rfl⟩
            obtain ⟨j, hj, rfl, h6, hL6, hB6, ho6⟩ := hrel
            clear h9 hB9 ho9'
            by_cases hjlt : j < n5
            · have hjl : (j : Int) < (n5 : Int) := by omega
              have hj0 : (0 : Int) ≤ (j : Int) := by omega
              obtain ⟨b, ox, rfl, x, hx, x0, x1, x2⟩ := ods_get (rd_own ho6) hjlt
              obtain ⟨hxo, t, hxt, htl, -⟩ := hso.out x (List.mem_of_getElem? hx)
              have HT := Lib.hid (show (L.take (j + 1)).foldl fone V = fone ((L.take j).foldl fone V) x by rw [List.take_add_one, hx, List.foldl_append]; rfl)
              have hgl := Lib.hid (fold_len (L.take j) V)
              obtain ⟨U, hU⟩ : ∃ U, (L.take j).foldl fone V = U := ⟨_, rfl⟩
              rw [hU] at h6 hL6 HT hgl
              have htU : t < U.g.length := by rw [hgl.out]; exact htl
              have hxI : I64 x.id := by
                have := stepL_id (c := V.c) (o := x) (by rw [HLe.out]; exact List.mem_of_getElem? hx)
                rw [this]
                exact HID.out
              have hLim' := Lib.hid (lim_fone hL6.out x hxt htU)
              obtain ⟨xa, xk, xid⟩ := x
              simp only at hxt hxI x0 x1 x2 hxo
              subst hxt
              obtain ⟨s, hs⟩ : ∃ s, U.g.getD t ag0 = s := ⟨_, rfl⟩
              obtain ⟨R, hR⟩ : ∃ R, ordK s xk xid = R := ⟨_, rfl⟩
              obtain ⟨s', hs'⟩ : ∃ s', ordS s xk xid = s' := ⟨_, rfl⟩
              have HF := Lib.hid (show fone U ⟨(t : Int), xk, xid⟩ = { wAg U t s' with c := hearS U.c (t : Int) R xid } by
                unfold fone
                simp only [Int.toNat_natCast]
                rw [hs, hs', hR])
              have hcm : s.cm.length ≤ 100000 := by
                have := hL6.out.cm s (by rw [← hs]; exact List.mem_of_getElem? (getD_some htU))
                omega
              have hba : Below w6.heap.size w6 (w6.alloc (.cells #[.int .i64 (t : Int), .int .i64 xk, .int .i64 xid] 74)) := (Below.refl _ _).alloc (Nat.le_refl _) _
              have hbd : Blk (w6.alloc (.cells #[.int .i64 (t : Int), .int .i64 xk, .int .i64 xid] 74)) w6.heap.size 74 #[.int .i64 (t : Int), .int .i64 xk, .int .i64 xid] := Blk.new w6 _ _ rfl
              have h10 := h6.keep hba
              have ho10 := own_keep ho6 hba
              have har6 : a ≤ w6.heap.size := by have := hB6.size; rw [Ha.out] at this; exact this
              have hB10 := hB6.trans (hba.mono har6)
              have hl6 := h6.lt
              obtain ⟨w10, hw10⟩ : ∃ w10, w6.alloc (.cells #[.int .i64 (t : Int), .int .i64 xk, .int .i64 xid] 74) = w10 := ⟨_, rfl⟩
              have hs10 : w10.heap.size = w6.heap.size + 1 := by rw [← hw10]; simp
              obtain ⟨gd, hgd⟩ : ∃ g, w6.heap.size = g := ⟨_, rfl⟩
              have Hw := Lib.hid hw10
              have Hg := Lib.hid hgd
              rw [hw10] at hbd h10 ho10 hB10
              rw [hgd] at hbd hs10 hl6
              have hgw : gd ≠ wb := by have := hl6.1; omega
              have hgt : gd ≠ gs t ∧ gd ≠ gs t + 1 := by have := hl6.2.2 t htU; omega
              have hgc : gd ≠ cg ∧ gd ≠ cg + 1 := by have := hl6.2.1; omega
              clear h6 ho6 hB6 hba hw10 hgd hx hl6
              obtain ⟨f0, f1, _, _, _⟩ := h10.cs
              obtain ⟨AA, cA, hav, hcA, hmA, hnA⟩ := own_form h10.ptrs
              obtain ⟨kn, hkn⟩ : ∃ n, U.g.length = n := ⟨_, rfl⟩
              rw [hkn] at hav
              rw [hav] at f1
              have Hav := Lib.hid hav
              have Hkn := Lib.hid hkn
              have htn : t < kn := by omega
              have htni : (t : Int) < (kn : Int) := by omega
              have ht0 : (0 : Int) ≤ (t : Int) := by omega
              obtain ⟨pb, po, rfl, cp⟩ := h10.ptr hav hkn.symm htn
              have hpg := h10.ptrsK (g := pb) (by rw [hav]; rfl)
              have hpt := hpg.2.2.2.1 t htU
              have hA := h10.at_ htU
              rw [hs] at hA
              have hwA := h10.wbA htU
              have hwC := h10.wbC
              have hO : ∀ p, Calls Try.prog 13 #[.pointer (some ⟨gs t + 1, 0, none⟩), .int .i64 xk, .int .i64 xid] (w10.drewN p) (fun r w' => r = .returned (.int .i64 R) ∧ AgX w' (gs t) s' ∧ Fu (fun k => k = gs t ∨ k = gs t + 1) w10 w') := fun p => by
                have := order_ (w10.drewN p) (gs t) s (hA.drewN p) xk xid hxI (by omega)
                rw [hR, hs'] at this
                refine this.mono ?_
                rintro r w' ⟨e1, e2, e3⟩
                exact ⟨e1, e2, ⟨e3.os, e3.tape, e3.output, e3.size, e3.block⟩⟩
              have hrt : ∀ g, (Value.slice (some ⟨b, ox, none⟩) n5 c9).ownBlock = some g → g ≠ gs t ∧ g ≠ gs t + 1 ∧ g ≠ cg ∧ g ≠ cg + 1 := fun g hg => by
                obtain ⟨ds, hd⟩ := own_blk2 ho10 hg
                obtain ⟨⟨D, hm, _⟩⟩ := hA.set
                obtain ⟨kk, c, ⟨E, hM, _⟩⟩ := h10.cmap
                obtain ⟨cs, hb⟩ := h10.cblk
                exact ⟨blk_map hd hm, blk_ty hd hA.blk (by decide), blk_map hd hM, blk_ty hd hb (by decide)⟩
              have d0 := hbd.cell (j := 0) (u := .int .i64 (t : Int)) rfl
              have d1 := hbd.cell (j := 1) (u := .int .i64 xk) rfl
              have d2 := hbd.cell (j := 2) (u := .int .i64 xid) rfl
              have H10 := Lib.hid h10
              have HO10 := Lib.hid ho10
              have HRT := Lib.hid hrt
              clear hav hkn hpg hA hbd hs hR hs' h10 ho10 hrt hcA hmA hnA hcm hxo
              go_wp2_with fail
              rw [Hw.out, Hg.out]
              go_region_held3 (fun w' => w'.cell? ⟨wb, 0, none⟩ = some (.pointer (some ⟨cg + 1, 0, none⟩)) ∧ w'.cell? ⟨wb, 1, none⟩ = some (.slice (some ⟨pb, po, none⟩) kn cA) ∧ w'.cell? ⟨gd, 0, none⟩ = some (.int .i64 (t : Int)) ∧ w'.cell? ⟨gd, 1, none⟩ = some (.int .i64 xk) ∧ w'.cell? ⟨gd, 2, none⟩ = some (.int .i64 xid) ∧ w'.cell? ⟨pb, po + t, none⟩ = some (.pointer (some ⟨gs t + 1, 0, none⟩)))
                (first | go_keep | exact ⟨f0, f1, d0, d1, d2, cp⟩ | exact ⟨u0, u1, u2, u3, u4, u5⟩ | exact ⟨y0, y1, y2, y3, y4, y5⟩)
                (first
                  | (go_at_call 13
                     refine (hO _).mono ?_
                     rintro r wA ⟨rfl, hAA, hFA⟩
                     have u0 := fu_cell hFA f0 (by simp only; omega)
                     have u1 := fu_cell hFA f1 (by simp only; omega)
                     have u2 := fu_cell hFA d0 (by simp only; omega)
                     have u3 := fu_cell hFA d1 (by simp only; omega)
                     have u4 := fu_cell hFA d2 (by simp only; omega)
                     have u5 := fu_cell hFA cp (by simp only; omega)
                     obtain ⟨hWA, hbA⟩ := H10.out.agTo htU hAA hFA)
                  | (go_at_call 26
                     refine (hear_ wA cg _ U.c hWA.co (t : Int) R xid).mono ?_
                     rintro r wB ⟨rfl, hCB⟩
                     have y0 := fu_cell hCB.2 u0 (by simp only; omega)
                     have y1 := fu_cell hCB.2 u1 (by simp only; omega)
                     have y2 := fu_cell hCB.2 u2 (by simp only; omega)
                     have y3 := fu_cell hCB.2 u3 (by simp only; omega)
                     have y4 := fu_cell hCB.2 u4 (by simp only; omega)
                     have y5 := fu_cell hCB.2 u5 (by simp only; have := hWA.ptrsK (g := pb) (by rw [Hav.out]; rfl); omega)))
              obtain ⟨hWB, hbB⟩ := hWA.coTo hCB
              have hoB := own_fu (own_fu HO10.out hFA (fun g hg q => by have := HRT.out g hg; omega)) hCB.2 (fun g hg q => by have := HRT.out g hg; omega)
              have har10 : a ≤ w10.heap.size := by have := Hg.out; omega
              have hBB := hB10.trans ((hbA.trans hbB).below har10)
              have HT2 := Lib.hid (HT.out.trans HF.out)
              have HWB := Lib.hid hWB
              have hLB : Hid (Lim (i + 5 * k + (j + 1)) ((L.take (j + 1)).foldl fone V)) := Lib.hid (by rw [HT.out]; exact hLim'.out)
              clear hO hAA hFA hWA hbA hCB hbB f0 f1 d0 d1 d2 cp u0 u1 u2 u3 u4 u5 y0 y1 y2 y3 y4 y5 hWB hB10
              go_wp2
              go_roundw
              case rel => exact ⟨j + 1, by omega, by go_num, by rw [HT2.out]; exact HWB.out, hLB, hBB, hoB⟩
              case measure => simp [intOf]; omega
            · have hjn : j = n5 := by omega
              subst hjn
              have hjl : ¬ (j : Int) < (j : Int) := by omega
              rw [List.take_of_length_le (by rw [Hn5.out]; exact Nat.le_refl _)] at h6 hL6
              have HFR := Lib.hid (show L.foldl fone V = frounds (k + 1) W0 by rw [HS.out]; unfold fround; rw [HLe.out])
              rw [HFR.out] at h6 hL6
              have H6 := Lib.hid h6
              clear h6 ho6
              go_wp2
              go_roundw
              case rel => exact ⟨k + 1, by omega, by go_num, H6.out, Lib.hid (hL6.out.mono (by omega)), hB6⟩
              case measure => simp [intOf]; omega
        · have hk12 : k = 12 := by omega
          subst hk12
          have hkl : ¬ ((12 : Nat) : Int) < 12 := by omega
          obtain ⟨hI1, hI2, hI3, hI4⟩ := hI.out
          obtain ⟨E1, E2, E3⟩ := ends_all hI1 (by omega)
          obtain ⟨V, hV⟩ : ∃ V, frounds 12 W0 = V := ⟨_, rfl⟩
          rw [hV] at hW hL hI1 E1 E2 E3
          have hPh := phase_ w8 cg _ V.c hW.co
          rw [E1, E2] at hPh
          obtain ⟨f0, _, _, _, _⟩ := hW.cs
          have HE := Lib.hid E3
          have HI1 := Lib.hid hI1
          clear hI hI1 hI2 hI3 hI4 E1 E2 E3 hV
          go_wp2_with fail
          refine hPh.mono ?_
          rintro r w9 ⟨rfl, n9, rfl⟩
          have h9 := hW.drewN n9
          have hB9 := below_drewN hB n9
          clear hW hB hPh f0
          generalize w8.drewN n9 = w9 at *
          obtain ⟨c0, c1, _, _, c4⟩ := h9.cs
          obtain ⟨AI, cI, hiv, hcI, hmI, hnI⟩ := own_form h9.ids
          obtain ⟨AA, cA, hav, hcA, hmA, hnA⟩ := own_form h9.ptrs
          obtain ⟨p, hp⟩ : ∃ p, V.ids.length = p := ⟨_, rfl⟩
          obtain ⟨n, hn⟩ : ∃ n, V.g.length = n := ⟨_, rfl⟩
          rw [hp] at hiv
          rw [hn] at hav
          rw [hav] at c1
          rw [hiv] at c4
          have Hp := Lib.hid hp
          have Hn := Lib.hid hn
          have Hav := Lib.hid hav
          have Hiv := Lib.hid hiv
          have hpN : p ≤ 500 := by have := hL.out.ids; omega
          have hn5 : n ≤ 5 := by have := hL.out.g; omega
          have hrow : Is w9 AI p V.ids := by
            have := h9.ids
            rw [hiv] at this
            exact rd_own (show w9.ownsRow a 3 1 (.slice AI p cI) p (ivs V.ids) by rw [← hp]; rw [← hp] at this; exact this)
          have HRow := Lib.hid hrow
          have H9 := Lib.hid h9
          have har9 : a ≤ w9.heap.size := by have := hB9.size; rw [Ha.out] at this; exact this
          have HB9 := Lib.hid hB9
          clear hiv hav hp hn hrow hcI hmI hnI hcA hmA hnA h9 c0 c4 hB9
          go_wp2_with fail
          go_loopw [103] (fun mv w10 => ∃ (m : Nat), m ≤ n ∧ mv = .int .i64 (m : Int) ∧ Below w9.heap.size w9 w10) (fun mv _ => n - (intOf mv).toNat)
          case atStart => exact ⟨0, Nat.zero_le _, rfl, Below.refl _ _⟩
          case round =>
            obtain ⟨w10, rfl⟩ : ∃ w10 : World, w10 = wr := ⟨_, rfl⟩
            obtain ⟨m, hm, rfl, hb10⟩ := hrel
            by_cases hmlt : m < n
            · have hml : (m : Int) < (n : Int) := by omega
              have hm0 : (0 : Int) ≤ (m : Int) := by omega
              have hmg : m < V.g.length := by rw [Hn.out]; exact hmlt
              have h10 := H9.out.keep hb10
              obtain ⟨pb, po, rfl, cp⟩ := h10.ptr Hav.out Hn.out.symm hmlt
              obtain ⟨e0, _, _, _, e4⟩ := h10.cs
              rw [Hiv.out] at e4
              clear c1
              obtain ⟨wo3, hwo3⟩ : ∃ wo : World, wo = w10 := ⟨_, rfl⟩
              clear hwo3 h10
              go_wp2_with fail
              go_loopw [112] (fun lv w11 => ∃ (l : Nat), l ≤ p ∧ lv = .int .i64 (l : Int) ∧ Below w9.heap.size w9 w11) (fun lv _ => p - (intOf lv).toNat)
              case atStart => exact ⟨0, Nat.zero_le _, rfl, hb10⟩
              case round =>
                obtain ⟨w11, rfl⟩ : ∃ w11 : World, w11 = wr := ⟨_, rfl⟩
                obtain ⟨l, hl, rfl, hb11⟩ := hrel
                by_cases hllt : l < p
                · have hll : (l : Int) < (p : Int) := by omega
                  have hl0 : (0 : Int) ≤ (l : Int) := by omega
                  obtain ⟨ib, io, x, rfl, hx, cx⟩ := (HRow.out.below hb11).get hllt
                  have hxI : I64 x := hL.out.idsI x (List.mem_of_getElem? hx)
                  have h11 := H9.out.keep hb11
                  have c0 := h11.cs.1
                  obtain ⟨s, hs⟩ : ∃ s, V.g.getD m ag0 = s := ⟨_, rfl⟩
                  have hAg := h11.at_ hmg
                  rw [hs] at hAg
                  have hsm : s ∈ V.g := by rw [← hs]; exact List.mem_of_getElem? (getD_some hmg)
                  obtain ⟨T, hT⟩ : ∃ T, stC V.c x = T := ⟨_, rfl⟩
                  have hmT : cmB s x = (T == 2) := by
                    have := HE.out s hsm x
                    rw [hT] at this
                    unfold cmB
                    by_cases e : T = 2
                    · rw [decide_eq_true (this.2 e)]; symm; simpa using e
                    · rw [decide_eq_false (fun q => e (this.1 q))]; symm; simpa using e
                  have hC := committed_ w11.drew (gs m) s (hAg.drewN 1) x hxI
                  rw [hmT] at hC
                  have hSt : ∀ W, Below w11.drew.heap.size w11.drew W → Calls Try.prog 33 #[.pointer (some ⟨cg + 1, 0, none⟩), .int .i64 x] W fun r w' => r = .returned (.int .i64 T) ∧ W = w' := fun W hW => by
                    rw [← hT]
                    exact state_ W cg _ V.c ((h11.co.drewN 1).keep hW) x hxI
                  obtain ⟨T2, hT2⟩ : ∃ b, (T == 2) = b := ⟨_, rfl⟩
                  rw [hT2] at hC
                  have hne : (T2 != T2) = false := by simp
                  have hs11 : w9.heap.size ≤ w11.heap.size := hb11.size
                  clear hx hs hAg hsm hT hmT h11 hb10
                  go_wp2_with fail
                  go_region_held3 (fun w' => w'.cell? ⟨wb, 0, none⟩ = some (.pointer (some ⟨cg + 1, 0, none⟩)))
                    (first | go_keep | exact c0 | exact y0)
                    (first
                      | (go_at_call 17
                         refine hC.mono ?_
                         rintro r wA ⟨rfl, hbA⟩
                         have y0 := (hbA.cell (cell_lt (show w11.drew.cell? _ = _ from c0))).trans c0)
                      | (go_at_call 33
                         refine (hSt _ hbA).mono ?_
                         rintro r w' ⟨rfl, rfl⟩))
                  have hbB : Below w9.heap.size w9 wA := (below_drew hb11).trans (hbA.mono hs11)
                  clear hC hSt c0 y0 hbA hb11
                  go_wp2
                  go_roundw
                  case rel => exact ⟨l + 1, by omega, by go_num, hbB⟩
                  case measure => simp [intOf]; omega
                · have hlp : l = p := by omega
                  subst hlp
                  have hll : ¬ (l : Int) < (l : Int) := by omega
                  go_wp2
                  go_roundw
                  case rel => exact ⟨m + 1, by omega, by go_num, hb11⟩
                  case measure => simp [intOf]; omega
            · have hmn : m = n := by omega
              subst hmn
              have hml : ¬ (m : Int) < (m : Int) := by omega
              have hRt := right_ w10 a (fun _ => False) wb cg gs av _ _ _ V (H9.out.keep hb10) hL.out (by omega) (right_is HI1.out)
              have hB10 := HB9.out.trans (hb10.mono har9)
              have har10 : a ≤ w10.heap.size := by have := hb10.size; omega
              go_wp2_with fail
              refine hRt.mono ?_
              rintro r w11 ⟨rfl, hb11⟩
              have hB11 := hB10.trans (hb11.mono har10)
              go_wp2
              go_ret
              exact ⟨rfl, by rw [Ha.out]; exact hB11⟩
end
end Bar
open Bar

set_option maxRecDepth 100000 in
theorem barrierEnds_lifted (os : Os) (started : os.Started) (H : Type) (enc : TypeId × Value → H) :
    ReturnsInHanded {} Try.checked os 6 .any (Rows.barrierEndsSpec.pre6 enc Try.prog Try.f6 Rows.barrierEndsRow.domain false) (Rows.barrierEndsSpec.post enc Try.prog Try.f6 false true false false) := by
  refine law_lifted (C := Try.checked) (tb := 4) own_ started (by kernel_rfl) Try.func6
    (ChangeSpec.witness6 (enc := enc) (C := Try.checked) false ⟨#[], #[.int .u8 0, .slice none 0 0], []⟩ 8 (by kernel_rfl) (by kernel_rfl) (by kernel_rfl) (by kernel_rfl))
    rfl rfl Try.underlying4 laidOut_ (by kernel_rfl) (fun ds h => by match ds, h with | [_, _], _ => rfl) ?_
  intro W base args ds p hval0 hA0 _ hsz0
  have hval : ∀ (j : Nat) t v, Try.f6.params[j]? = some t → args[j]? = some v → Value.okWide Try.prog W .any base t v := hval0
  have hA : DataW.TrodAll enc Try.prog W 0 (fun _ => true) true Try.f6.params.toList args.toList ds p := hA0
  have hsz : (DataW.weightsEach Try.prog Try.f6.params.toList ds).all (· ≤ reachBytes) = true := hsz0
  clear hval0 hA0 hsz0
  rw [Try.params6] at hA hval hsz
  obtain ⟨v0, v1, d0, d1, p0, p1, rfl, rfl, rfl, h0, h1⟩ := trodAll_two hA
  obtain ⟨k0, rfl, hz0⟩ := arg_nat _ Try.underlying5 (hval 0 _ v0 rfl rfl) h0 wf_u8
  obtain ⟨A1, n1, c1, xs1, rfl, r1, b1⟩ := arg_slice ops_dos Try.underlying61 (hval 1 _ v1 rfl rfl) h1 (weight_at hsz (j := 1) rfl rfl)
  exact by
    obtain ⟨ha, hnc, hc⟩ := dos_of r1
    exact barrierEnds_walk W k0 (by omega) A1 n1 c1 _ ha hnc hc

/-- BarrierEnds, for every input: the statement as it was given. -/
theorem barrierEnds_holds : Rows.BarrierEndsSaid :=
  OpenClaim.holds_of_wide 6 Try.f6 rfl rfl rfl rfl rfl rfl rfl ⟨rfl, rfl, rfl, rfl, rfl⟩ rfl rfl rfl rfl rfl (by kernel_rfl) Try.func6 (by kernel_rfl)
    (of_decide_eq_true (by kernel_rfl)) (by unfold Func.isWrapper; first | (rw [if_pos (by decide +kernel)]; kernel_rfl) | (rw [if_neg (by decide +kernel)]; exact ⟨rfl, rfl⟩))
    (fun os started H enc _ => barrierEnds_lifted os started H enc)
end Go.Proofs.Ytpjbeodnalgkfaa
