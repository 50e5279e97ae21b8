/- Layer 17: what a snapshot has come to stands (BarrierStands). No condition. -/
import Derived.Test.YtpjbeodnalgkfaaBarPr
set_option linter.all false
namespace Go.Proofs.Ytpjbeodnalgkfaa
open Go.ChangeShapes Go.WideShapes Go.ChangeAt Go.RowKit
namespace Bar
theorem goes_do {W : Wd} (h : Inv W) (d : Dod) : Goes W.c (wDo W d).c := by
  have hw : ∀ (V : Wd) (x : Odr), (wOrd V x).c = V.c := fun V x => by unfold wOrd; split <;> rfl
  unfold wDo
  split
  · unfold wBeg
    split
    · exact goes_beg h.co _
    · exact Goes.refl _
  · unfold wStep; split <;> exact Goes.refl _
  · unfold wDel
    split
    · rw [hw]; exact Goes.refl _
    · exact Goes.refl _
  · unfold wTwo
    split
    · rw [hw]; exact Goes.refl _
    · exact Goes.refl _
  · unfold wLose; split <;> exact Goes.refl _
  · unfold wHear
    split
    · exact (goes_hear h.co _ _ _).2
    · exact Goes.refl _
  · unfold wCrA; split <;> exact Goes.refl _
  · split
    · exact goes_ab h.co
    · exact goes_cr h.co
theorem ids_do (W : Wd) (d : Dod) : ∃ l, (wDo W d).ids = W.ids ++ l := by
  have hw : ∀ (V : Wd) (x : Odr), (wOrd V x).ids = V.ids := fun V x => by unfold wOrd; split <;> rfl
  unfold wDo
  split
  · unfold wBeg
    split
    · exact ⟨_, rfl⟩
    · exact ⟨[], by simp⟩
  · unfold wStep; split <;> exact ⟨[], by simp⟩
  · unfold wDel
    split
    · rw [hw]; exact ⟨[], by simp⟩
    · exact ⟨[], by simp⟩
  · unfold wTwo
    split
    · rw [hw]; exact ⟨[], by simp⟩
    · exact ⟨[], by simp⟩
  · unfold wLose; split <;> exact ⟨[], by simp⟩
  · unfold wHear; split <;> exact ⟨[], by simp⟩
  · unfold wCrA; split <;> exact ⟨[], by simp [wAg]⟩
  · split <;> exact ⟨[], by simp [wAb, wCr]⟩
section
variable (w : World)
set_option maxRecDepth 100000 in
set_option maxHeartbeats 8000000 in
theorem barrierStands_walk (k0 : Nat) (hk0 : k0 < 256) (A : Option Addr) (n c : Nat) (l : List Dod) (h : DoL w A n l) (hnc : n ≤ c) (hc : c * 24 ≤ 140737488351232) :
    Calls Try.prog 9 #[.int .u8 (k0 : Int), .slice A n c] w fun r w' => r = .returned (.bool true) ∧ Below w.heap.size w w' := by
  obtain ⟨q, hq⟩ : ∃ q, min n 400 = q := ⟨_, rfl⟩
  have hqi : min (n : Int) 400 = (q : Int) := by omega
  have hqn : q ≤ n := by omega
  have hq4 : q ≤ 400 := by omega
  have hqni : (q : Int) ≤ (n : Int) := by omega
  have hqci : (q : Int) ≤ (c : Int) := by omega
  have hq0 : (0 : Int) ≤ (q : Int) := by omega
  have HD := Lib.hid h
  have hk1 : 1 ≤ k0 % 5 + 1 := by omega
  have hk5 : k0 % 5 + 1 ≤ 5 := by omega
  have hBgn := wbegin_ w k0 hk0
  obtain ⟨K, hK⟩ : ∃ K, k0 % 5 + 1 = K := ⟨_, rfl⟩
  rw [hK] at hk1 hk5 hBgn
  clear hq h hK
  go_enter Try.func9, Try.ntmps9
  go_wp2_with fail
  refine hBgn.mono ?_
  rintro r w1 ⟨wb, cg, gs, av, rfl, h1, hB1⟩
  obtain ⟨a, ha⟩ : ∃ a, w.heap.size = a := ⟨_, rfl⟩
  have Ha := Lib.hid ha
  rw [ha] at h1 hB1
  have hs1 : a ≤ w1.heap.size := by rw [← ha]; exact hB1.size
  clear ha hBgn
  go_wp2_with fail
  refine (alive_ w1).mono ?_
  rintro r w2 ⟨rfl, hb2⟩
  have h2 := h1.keep hb2
  have hB2 : Below a w w2 := hB1.trans (hb2.mono hs1)
  clear h1 hB1 hb2 hs1
  go_wp2_with fail
  go_loopw [34] (fun iv wr => ∃ (i : Nat) (W : Wd) (ov xv jv : Value), i ≤ q ∧ iv = .int .i64 (i : Int) ∧ WmX wr a (fun _ => False) wb cg gs av ov xv jv W ∧ Hid (Inv W) ∧ Hid (Lim i W) ∧ Below a w wr) (fun iv _ => q - (intOf iv).toNat)
  case atStart => exact ⟨0, _, _, _, _, Nat.zero_le _, rfl, h2, Lib.hid (inv0 hk1), Lib.hid (lim0 hk5), hB2⟩
  case round =>
    obtain ⟨i, W, ov, xv, jv, hi, rfl, hW, hI, hL, hB⟩ := hrel
    clear h2 hB2
    by_cases hlt : i < q
    · have hil : (i : Int) < (q : Int) := by omega
      have hi0 : (0 : Int) ≤ (i : Int) := by omega
      obtain ⟨ba, oa, d, rfl, hl, hF, hcs⟩ := HD.out.at_ i (by omega)
      have hBw : Below w.heap.size w wr := by rw [Ha.out]; exact hB
      have d0 : wr.cell? ⟨ba, oa + i * 3, none⟩ = some (.int .u8 (d.kd : Int)) := (hBw.cell (cell_lt (hcs 0 _ rfl))).trans (hcs 0 _ rfl)
      have d1 : wr.cell? ⟨ba, oa + i * 3 + 1, none⟩ = some (.int .i64 d.id) := (hBw.cell (cell_lt (hcs 1 _ rfl))).trans (hcs 1 _ rfl)
      have d2 : wr.cell? ⟨ba, oa + i * 3 + 2, none⟩ = some (.int .i64 d.i) := (hBw.cell (cell_lt (hcs 2 _ rfl))).trans (hcs 2 _ rfl)
      have hba : Below wr.heap.size wr (wr.alloc (.cells (doa d) 66)) := (Below.refl _ _).alloc (Nat.le_refl _) _
      have hbd : Blk (wr.alloc (.cells (doa d) 66)) wr.heap.size 66 (doa d) := Blk.new wr _ _ rfl
      have har : a ≤ wr.heap.size := by have := hB.size; rw [Ha.out] at this; exact this
      have h4 := hW.keep hba
      have hB4 := hB.trans (hba.mono har)
      have hw4s : (wr.alloc (.cells (doa d) 66)).heap.size = wr.heap.size + 1 := by simp
      have hLim2 := Lib.hid (Lim.do hL.out hW.co.idr d hF.id)
      have hInv2 := Lib.hid (inv_do hI.out d)
      clear hba hcs hBw hl
      obtain ⟨f0, _, _, _, f4⟩ := h4.cs
      obtain ⟨AI, cI, hiv, hcI, hmI, hnI⟩ := own_form h4.ids
      obtain ⟨p, hp⟩ : ∃ p, W.ids.length = p := ⟨_, rfl⟩
      rw [hp] at hiv
      rw [hiv] at f4
      have Hp := Lib.hid hp
      have hpN : p ≤ 400 := by have := hL.out.ids; omega
      have hrow : Is (wr.alloc (.cells (doa d) 66)) AI p W.ids := by
        have := h4.ids
        rw [hiv] at this
        exact rd_own (show (wr.alloc (.cells (doa d) 66)).ownsRow a 3 1 (.slice AI p cI) p (ivs W.ids) by rw [← hp]; rw [← hp] at this; exact this)
      obtain ⟨w4, hw4⟩ : ∃ w4, wr.alloc (.cells (doa d) 66) = w4 := ⟨_, rfl⟩
      have Hw4 := Lib.hid hw4
      obtain ⟨gd, hgd⟩ : ∃ g, wr.heap.size = g := ⟨_, rfl⟩
      have Hgd := Lib.hid hgd
      have f0' : (wr.alloc (.cells (doa d) 66)).cell? ⟨wb, 4, none⟩ = some (.slice AI p cI) := f4
      rw [hw4] at h4 hB4 hbd hrow f0 f4 hw4s
      rw [hgd] at hbd hw4s har
      have HRow := Lib.hid hrow
      have H4 := Lib.hid h4
      have hB4' := Lib.hid hB4
      have hbd' := Lib.hid hbd
      obtain ⟨i0, hi0', hz0, hz1, hz2⟩ := int_info
      have Hz := Lib.hid hz2
      clear hz2 hiv hp hW hB hw4 hgd hrow hcI hmI hnI
      obtain ⟨wo, hwo⟩ : ∃ wo : World, wo = wr := ⟨_, rfl⟩
      go_wp2_with fail
      rw [Hw4.out, Hgd.out]
      clear Hw4 Hgd f0' d0 d1 d2 hwo
      go_loopw [9, 43] (fun sv jv w6 => ∃ j : Nat, j ≤ p ∧ jv = .int .i64 (j : Int) ∧ w6.ownsRow w4.heap.size 3 1 sv j (ivs ((W.ids.take j).map (stC W.c))) ∧ Below w4.heap.size w4 w6) (fun _ jv _ => p - (intOf jv).toNat)
      case atStart => exact ⟨0, Nat.zero_le _, rfl, own_nil _ _ _ _, Below.refl _ _⟩
      case round =>
        obtain ⟨w6, rfl⟩ : ∃ w6 : World, w6 = wr := ⟨_, rfl⟩
        obtain ⟨j, hj, rfl, hv, hb6⟩ := hrel
        by_cases hjlt : j < p
        · have hjl : (j : Int) < (p : Int) := by omega
          have hj0 : (0 : Int) ≤ (j : Int) := by omega
          obtain ⟨ib, io, x, rfl, hx, cx⟩ := (HRow.out.below hb6).get hjlt
          have hxI : I64 x := hL.out.idsI x (List.mem_of_getElem? hx)
          have h6 := H4.out.keep hb6
          have e0 := h6.cs.1
          have hSt := state_ w6 cg _ W.c h6.co x hxI
          obtain ⟨T, hT⟩ : ∃ T, stC W.c x = T := ⟨_, rfl⟩
          have HT := Lib.hid (show (W.ids.take (j + 1)).map (stC W.c) = (W.ids.take j).map (stC W.c) ++ [T] by rw [List.take_add_one, hx, List.map_append, ← hT]; rfl)
          rw [hT] at hSt
          obtain ⟨AO, cO, rfl, hcO, hmO, hnO⟩ := own_form hv
          have hba6 : Below w6.heap.size w6 (w6.alloc (.cells #[.int .i64 T] 3)) := (Below.refl _ _).alloc (Nat.le_refl _) _
          have hoa := own_keep hv hba6
          have hrd := (Is.new w6 [T] 3 (g := w6.heap.size) rfl (C := #[.int .i64 T]) rfl (n := 1) rfl)
          have z3 : j + 1 ≤ maxLen := by unfold maxLen; omega
          have z4 : (j + 1) * 8 ≤ 140737488355328 := by omega
          have hs6 : w4.heap.size ≤ w6.heap.size := hb6.size
          have hbs : w4.heap.size ≤ (w6.alloc (.cells #[.int .i64 T] 3)).heap.size := by simp; omega
          have hbA : Below w4.heap.size w4 (w6.alloc (.cells #[.int .i64 T] 3)) := hb6.alloc hs6 _
          clear hx hT h6 hba6 hb6 h4 hB4 hbd f0 f4
          go_wp2_with fail
          refine hSt.mono ?_
          rintro r v9 ⟨rfl, rfl⟩
          go_wp2_with (first
            | (at_builtin
               go_must (refine wpList_app _ rfl (.tmp 47) (.tmp 54) _ rfl w4.heap.size 3 i0 _ 1 8 Try.underlying25 hi0' hz0 hz1 Hz.out rfl (by omega) _ j _ rfl hoa (some ⟨w6.heap.size, 0, none⟩) 1 1 (ivs [T]) rfl (fun h => by cases h) hrd (ivs_one _) z3 z4 hbs ?_)
               intro v3 w3 hown3 hg3 hat3
               rw [← ivs_app, ← HT.out] at hown3
               have hbw : Below w4.heap.size w4 w3 := hbA.grown hg3 hbs (fun k hk => (hv.lt k hk).1)
               clear hg3 hat3 hv)
            | fail)
          go_roundw
          case rel => exact ⟨j + 1, by omega, by go_num, hown3, hbw⟩
          case measure => simp [intOf]; omega
        · have hjp : j = p := by omega
          subst hjp
          have hjl : ¬ (j : Int) < (j : Int) := by omega
          rw [List.take_of_length_le (by rw [Hp.out]; exact Nat.le_refl _)] at hv
          obtain ⟨AS, cS, rfl, hcS, hmS, hnS⟩ := own_form hv
          have h6 := H4.out.keep hb6
          have hB6 : Below a w w6 := hB4'.out.trans (hb6.mono (by rw [hw4s]; omega))
          have hbd6 := hbd'.out.keep hb6
          have e0 := hbd6.cell (j := 0) (u := .int .u8 (d.kd : Int)) rfl
          have e1 := hbd6.cell (j := 1) (u := .int .i64 d.id) rfl
          have e2 := hbd6.cell (j := 2) (u := .int .i64 d.i) rfl
          have h6p := h6.prot' (P' := fun k => (Value.slice AS j cS).ownBlock = some k) (fun k hk => ⟨fun q => by have := (hv.lt k hk).1; have := (H4.out.knLt q).2; omega, (hv.lt k hk).2⟩)
          have hDo := wdo_ w6 a (fun k => (Value.slice AS j cS).ownBlock = some k) wb cg gs av ov xv jv W h6p hL.out (by omega) d hF
          have hs6 : a ≤ w6.heap.size := by have := hb6.size; omega
          have hG := goes_do hI.out d
          obtain ⟨lx, hids⟩ := ids_do W d
          clear h4 hB4 hbd f0 f4 h6 h6p hbd6 hcS hmS hnS
          go_wp2_with fail
          refine hDo.mono ?_
          rintro r w7 ⟨ov7, xv7, jv7, rfl, h7, hb7⟩
          have hv7 := hb7.own hv (fun g hg => hg)
          have hB7 : Below a w w7 := hB6.trans (hb7.below hs6)
          have hs7 : a ≤ w7.heap.size := Nat.le_trans hs6 hb7.size
          clear hDo hb7 hv hb6 hB6 e0 e1 e2 hs6
          obtain ⟨V, hV⟩ : ∃ V, wDo W d = V := ⟨_, rfl⟩
          rw [hV] at h7 hG hids hInv2 hLim2
          obtain ⟨f0, _, _, _, f4⟩ := h7.cs
          obtain ⟨BI, bI, hiv, hcI, hmI, hnI⟩ := own_form h7.ids
          obtain ⟨m, hm⟩ : ∃ m, V.ids.length = m := ⟨_, rfl⟩
          rw [hm] at hiv
          rw [hiv] at f4
          have Hm := Lib.hid hm
          have hmN : m ≤ 401 := by have := hLim2.out.ids; omega
          have hrow : Is w7 BI m V.ids := by
            have := h7.ids
            rw [hiv] at this
            exact rd_own (show w7.ownsRow a 3 1 (.slice BI m bI) m (ivs V.ids) by rw [← hm]; rw [← hm] at this; exact this)
          have hwas : Is w7 AS j (W.ids.map (stC W.c)) := rd_own hv7
          have hPh := phase_ w7 cg _ V.c h7.co
          have HG := Lib.hid hG
          have HI := Lib.hid hids
          have hok := h7.co.ok
          have HST : Hid (∀ x, stC V.c x = 1 → x = V.c.id) := Lib.hid (fun x hx => (st1 hx).2)
          have HKN : Hid (∀ x ∈ V.ids, stC V.c x ≠ 0) := Lib.hid hInv2.out.ids
          have hjm : j ≤ m := by
            rw [← Hm.out, ← Hp.out, hids, List.length_append]; omega
          have H7 := Lib.hid h7
          clear hiv hm hG hids hV h7 hcI hmI hnI hv7 hok
          go_wp2_with fail
          refine hPh.mono ?_
          rintro r w8 ⟨rfl, n8, rfl⟩
          have h8 := H7.out.drewN n8
          have hrow8 := hrow.drewN n8
          have hwas8 := hwas.drewN n8
          have hB8 := below_drewN hB7 n8
          have f08 := h8.cs.1
          have f48 : (w7.drewN n8).cell? ⟨wb, 4, none⟩ = some (.slice BI m bI) := f4
          have hs8 : a ≤ (w7.drewN n8).heap.size := hs7
          clear hrow hwas hB7 f0 f4 H7 hPh hs7
          generalize w7.drewN n8 = w8 at *
          have H8 := Lib.hid h8
          have HR8 := Lib.hid hrow8
          have HW8 := Lib.hid hwas8
          clear h8 hrow8 hwas8
          obtain ⟨id1, hid1⟩ : ∃ y, V.c.id = y := ⟨_, rfl⟩
          have Hid1 := Lib.hid hid1
          rw [hid1]
          clear hid1
          go_wp2_with fail
          go_loopw [73] (fun lv w9 => ∃ l : Nat, l ≤ m ∧ lv = .int .i64 (l : Int) ∧ w9 = w8) (fun lv _ => m - (intOf lv).toNat)
          case atStart => exact ⟨0, Nat.zero_le _, rfl, rfl⟩
          case round =>
            obtain ⟨l, hl, rfl, hwl⟩ := hrel
            subst hwl
            by_cases hllt : l < m
            · have hll : (l : Int) < (m : Int) := by omega
              have hl0 : (0 : Int) ≤ (l : Int) := by omega
              obtain ⟨ib, io, x, rfl, hx, cx⟩ := HR8.out.get hllt
              have hxm := List.mem_of_getElem? hx
              have hxI : I64 x := hLim2.out.idsI x hxm
              obtain ⟨T, hT⟩ : ∃ T, stC V.c x = T := ⟨_, rfl⟩
              have hSt := state_ wr cg _ V.c H8.out.co x hxI
              rw [hT] at hSt
              have hT0 : T ≠ 0 := by rw [← hT]; exact HKN.out x hxm
              have hTc := stC_cases V.c x
              rw [hT] at hTc
              have hT1 : T = 1 → x = id1 := fun e => by rw [← Hid1.out]; exact HST.out x (by rw [hT]; exact e)
              have hWas : l < j → ∃ b o, AS = some ⟨b, o, none⟩ ∧ ∃ U, wr.cell? ⟨b, o + l, none⟩ = some (.int .i64 U) ∧ (1 < U → T = U) := fun hlj => by
                obtain ⟨b, o, U, e, hU, cU⟩ := HW8.out.get hlj
                refine ⟨b, o, e, U, cU, fun hU1 => ?_⟩
                rw [List.getElem?_map] at hU
                obtain ⟨y, hy, ey⟩ := Option.map_eq_some_iff.1 hU
                have hxy : x = y := by
                  rw [HI.out, List.getElem?_append_left (by rw [Hp.out]; exact hlj), hy] at hx
                  injection hx with hx
                  exact hx.symm
                subst hxy
                have hc := stC_cases W.c x
                rw [ey] at hc
                rcases hc with e2 | e2 | e2 | e2
                · omega
                · omega
                · rw [← hT, e2]; exact HG.out.1 x (by rw [ey]; exact e2)
                · rw [← hT, e2]; exact HG.out.2.1 x (by rw [ey]; exact e2)
              have HW2 := Lib.hid hWas
              clear hx hxm hT hWas
              have u1 : ¬ T < 1 := by omega
              have u3 : ¬ (3 : Int) < T := by omega
              have HT1 := Lib.hid hT1
              have hcase : ((T == 1) = false) ∨ ((T == 1) = true ∧ x = id1) := by
                by_cases e : T = 1
                · exact .inr ⟨by simpa using e, hT1 e⟩
                · exact .inl (by simpa using e)
              clear hT1 hTc hT0
              by_cases hlj : l < j
              · obtain ⟨b, o, rfl, U, cU, hU⟩ := HW2.out hlj
                have hlji : (l : Int) < (j : Int) := by omega
                clear HW2
                by_cases hU1 : 1 < U
                · obtain rfl := hU hU1
                  have hne : (T != T) = false := by simp
                  rcases hcase with tc | ⟨tc, rfl⟩
                  · clear hU
                    go_wp2_with fail
                    refine hSt.mono ?_
                    rintro r v9 ⟨rfl, rfl⟩
                    go_wp2
                    go_roundw
                    case rel => exact ⟨l + 1, by omega, by go_num, by first | trivial | rfl⟩
                    case measure => simp [intOf]; omega
                  · clear hU
                    have hne2 : (x != x) = false := by simp
                    go_wp2_with fail
                    refine hSt.mono ?_
                    rintro r v9 ⟨rfl, rfl⟩
                    go_wp2
                    go_roundw
                    case rel => exact ⟨l + 1, by omega, by go_num, by first | trivial | rfl⟩
                    case measure => simp [intOf]; omega
                · clear hU
                  rcases hcase with tc | ⟨tc, rfl⟩
                  · go_wp2_with fail
                    refine hSt.mono ?_
                    rintro r v9 ⟨rfl, rfl⟩
                    go_wp2
                    go_roundw
                    case rel => exact ⟨l + 1, by omega, by go_num, by first | trivial | rfl⟩
                    case measure => simp [intOf]; omega
                  · have hne2 : (x != x) = false := by simp
                    go_wp2_with fail
                    refine hSt.mono ?_
                    rintro r v9 ⟨rfl, rfl⟩
                    go_wp2
                    go_roundw
                    case rel => exact ⟨l + 1, by omega, by go_num, by first | trivial | rfl⟩
                    case measure => simp [intOf]; omega
              · have hlji : ¬ (l : Int) < (j : Int) := by omega
                clear HW2
                rcases hcase with tc | ⟨tc, rfl⟩
                · go_wp2_with fail
                  refine hSt.mono ?_
                  rintro r v9 ⟨rfl, rfl⟩
                  go_wp2
                  go_roundw
                  case rel => exact ⟨l + 1, by omega, by go_num, by first | trivial | rfl⟩
                  case measure => simp [intOf]; omega
                · have hne2 : (x != x) = false := by simp
                  go_wp2_with fail
                  refine hSt.mono ?_
                  rintro r v9 ⟨rfl, rfl⟩
                  go_wp2
                  go_roundw
                  case rel => exact ⟨l + 1, by omega, by go_num, by first | trivial | rfl⟩
                  case measure => simp [intOf]; omega
            · have hlm : l = m := by omega
              subst hlm
              have hll : ¬ (l : Int) < (l : Int) := by omega
              go_wp2
              go_roundw
              case rel => exact ⟨i + 1, V, ov7, xv7, jv7, by omega, by go_num, H8.out.prot' (fun _ q => q.elim), hInv2, hLim2, hB8⟩
              case measure => simp [intOf]; omega
    · have he : i = q := by omega
      subst he
      have hil : ¬ (i : Int) < (i : Int) := by omega
      go_wp2
      go_ret
      exact ⟨rfl, by rw [Ha.out]; exact hB⟩
end
end Bar
open Bar

set_option maxRecDepth 100000 in
theorem barrierStands_lifted (os : Os) (started : os.Started) (H : Type) (enc : TypeId × Value → H) :
    ReturnsInHanded {} Try.checked os 9 .any (Rows.barrierStandsSpec.pre6 enc Try.prog Try.f9 Rows.barrierStandsRow.domain false) (Rows.barrierStandsSpec.post enc Try.prog Try.f9 false true false false) := by
  refine law_lifted (C := Try.checked) (tb := 4) own_ started (by kernel_rfl) Try.func9
    (ChangeSpec.witness6 (enc := enc) (C := Try.checked) false ⟨#[], #[.int .u8 0, .slice none 0 0], []⟩ 8 (by kernel_rfl) (by kernel_rfl) (by kernel_rfl) (by kernel_rfl))
    rfl rfl Try.underlying4 laidOut_ (by kernel_rfl) (fun ds h => by match ds, h with | [_, _], _ => rfl) ?_
  intro W base args ds p hval0 hA0 _ hsz0
  have hval : ∀ (j : Nat) t v, Try.f9.params[j]? = some t → args[j]? = some v → Value.okWide Try.prog W .any base t v := hval0
  have hA : DataW.TrodAll enc Try.prog W 0 (fun _ => true) true Try.f9.params.toList args.toList ds p := hA0
  have hsz : (DataW.weightsEach Try.prog Try.f9.params.toList ds).all (· ≤ reachBytes) = true := hsz0
  clear hval0 hA0 hsz0
  rw [Try.params9] at hA hval hsz
  obtain ⟨v0, v1, d0, d1, p0, p1, rfl, rfl, rfl, h0, h1⟩ := trodAll_two hA
  obtain ⟨k0, rfl, hz0⟩ := arg_nat _ Try.underlying5 (hval 0 _ v0 rfl rfl) h0 wf_u8
  obtain ⟨A1, n1, c1, xs1, rfl, r1, b1⟩ := arg_slice ops_dos Try.underlying61 (hval 1 _ v1 rfl rfl) h1 (weight_at hsz (j := 1) rfl rfl)
  exact by
    obtain ⟨ha, hnc, hc⟩ := dos_of r1
    exact barrierStands_walk W k0 (by omega) A1 n1 c1 _ ha hnc hc

/-- BarrierStands, for every input: the statement as it was given. -/
theorem barrierStands_holds : Rows.BarrierStandsSaid :=
  OpenClaim.holds_of_wide 9 Try.f9 rfl rfl rfl rfl rfl rfl rfl ⟨rfl, rfl, rfl, rfl, rfl⟩ rfl rfl rfl rfl rfl (by kernel_rfl) Try.func9 (by kernel_rfl)
    (of_decide_eq_true (by kernel_rfl)) (by unfold Func.isWrapper; first | (rw [if_pos (by decide +kernel)]; kernel_rfl) | (rw [if_neg (by decide +kernel)]; exact ⟨rfl, rfl⟩))
    (fun os started H enc _ => barrierStands_lifted os started H enc)
end Go.Proofs.Ytpjbeodnalgkfaa
