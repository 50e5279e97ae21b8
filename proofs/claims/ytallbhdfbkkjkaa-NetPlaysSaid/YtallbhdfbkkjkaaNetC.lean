/- Layer 15: Unpack. -/
import Derived.Test.YtallbhdfbkkjkaaNetB
import Derived.Test.YtallbhdfbkkjkaaNum
set_option linter.all false
namespace Go.Proofs.Ytallbhdfbkkjkaa
open Go.RowKit
namespace Net
open Str (far sealL)
theorem rInt_le {y : List UInt8} {c : Int} {s : RS} (hc : 0 ≤ c) : 0 ≤ ((rInt y c s).1 : Int) ∧ ((rInt y c s).1 : Int) ≤ c := by
  unfold rInt
  split
  · exact ⟨by simp, by simpa using hc⟩
  · split
    · exact ⟨by simp, by simpa using hc⟩
    · split
      · exact ⟨by simp, by simpa using hc⟩
      · exact ⟨by simp, by simp only; omega⟩
theorem rPart_le {y : List UInt8} {s : RS} : (rPart y s).1.length ≤ y.length := by
  unfold rPart
  split
  · simp
  · split
    · simp
    · split
      · simp
      · split
        · simp
        · simp only [List.length_take, List.length_drop]; omega
theorem run_fit {c : Int} (h0 : 0 ≤ c) (h1 : c ≤ 2147483648) (y : List UInt8) : FitS (runM c y) := by
  have b1 := rInt_le (y := y) (c := c) (s := ⟨0, 0, 0⟩) h0
  have b2 := rInt_le (y := y) (c := c) (s := (st1 c y).2) h0
  have b3 := rInt_le (y := y) (c := farI) (s := (st2 c y).2) (by decide)
  have b4 := rInt_le (y := y) (c := farI) (s := (st3 c y).2) (by decide)
  have b5 := rInt_le (y := y) (c := farI) (s := (st4 c y).2) (by decide)
  have b6 := rInt_le (y := y) (c := farI) (s := (st5 c y).2) (by decide)
  exact ⟨by unfold I64 runM; simp only; unfold st1; omega, by unfold I64 runM; simp only; unfold st2; omega, by unfold I64 runM; simp only; unfold st3; simp only [farI] at *; omega, by unfold I64 runM; simp only; unfold st4; simp only [farI] at *; omega, by unfold I64 runM; simp only; unfold st5; simp only [farI] at *; omega, by unfold I64 runM; simp only; unfold st6; simp only [farI] at *; omega⟩
/-- What is answered for bytes. -/
def UnA (w w' : World) (e : Ending) (x : List UInt8) : Prop :=
  ∃ X c, e = .returned (.tuple #[.agg (ma (unV x) (.slice X (unV x).d.length c)), .int .i64 (unE x)]) ∧ w'.ownsRow w.heap.size 5 1 (.slice X (unV x).d.length c) (unV x).d.length (bvs (unV x).d) ∧ Below w.heap.size w w'
theorem unE_of {x : List UInt8} (h : openE x = 0) : openL x = x.take (x.length - 4) ∧ unE x = (if FormM (openL x) then 0 else 5) := by
  unfold openE at h
  unfold openL unE
  split at h
  · rename_i hk
    rw [if_pos hk, if_pos hk]
    exact ⟨rfl, rfl⟩
  · cases h
theorem unE_no {x : List UInt8} (h : ¬ openE x = 0) : openE x = 4 ∧ unE x = 4 ∧ unV x = zM := by
  have h2 : unE x = 4 := by
    unfold openE at h
    unfold unE
    split at h
    · exact absurd rfl h
    · rename_i hk; rw [if_neg hk]
  refine ⟨?_, h2, unV_no (by rw [h2]; decide)⟩
  unfold openE at h ⊢
  split at h
  · exact absurd rfl h
  · rename_i hk; rw [if_neg hk]
theorem unV_run {x : List UInt8} {c : Int} (hc : 15 ≤ c) (h : openE x = 0) (h2 : FormM (openL x)) : unE x = 0 ∧ unV x = runM c (openL x) := by
  obtain ⟨e1, e2⟩ := unE_of h
  have e3 : unE x = 0 := by rw [e2, if_pos h2]
  refine ⟨e3, ?_⟩
  rw [(run_form hc h2).2]
  unfold unV
  rw [if_pos e3, e1]
theorem openL_le (x : List UInt8) : (openL x).length ≤ x.length := by
  unfold openL
  split
  · simp only [List.length_take]; omega
  · simp
abbrev ma0 : Array Value := #[.int .i64 0, .int .i64 0, .int .i64 0, .int .i64 0, .int .i64 0, .int .i64 0, .slice none 0 0]
theorem results_msg {fn : Func} {W : World} {q : Nat} {a b c d e f g : Value} {tmps : Array Value} (hr : fn.results = #[.cell 2 24, .tmp 3]) (h2 : tmps.getD 2 undef = .pointer (some ⟨q, 0, none⟩)) (hb : Blk W q 24 #[a, b, c, d, e, f, g]) :
    (results fn tmps).run Try.prog W = .ok (.tuple #[.agg #[a, b, c, d, e, f, g], tmps.getD 3 undef]) W := by
  have d0 := hb.cell (j := 0) rfl
  have d1 := hb.cell (j := 1) rfl
  have d2 := hb.cell (j := 2) rfl
  have d3 := hb.cell (j := 3) rfl
  have d4 := hb.cell (j := 4) rfl
  have d5 := hb.cell (j := 5) rfl
  have d6 := hb.cell (j := 6) rfl
  have h2' : tmps[2]?.getD undef = .pointer (some ⟨q, 0, none⟩) := by simpa using h2
  simp [results, hr, h2', go_sem, d0, d1, d2, d3, d4, d5, d6]
/-- The world behind the store of a message into block b. -/
abbrev sets (w : World) (b : Nat) (x0 x1 x2 x3 x4 x5 : Int) (v : Value) : World := ((((((w.setCell ⟨b, 0, none⟩ (.int .i64 x0)).setCell ⟨b, 1, none⟩ (.int .i64 x1)).setCell ⟨b, 2, none⟩ (.int .i64 x2)).setCell ⟨b, 3, none⟩ (.int .i64 x3)).setCell ⟨b, 4, none⟩ (.int .i64 x4)).setCell ⟨b, 5, none⟩ (.int .i64 x5)).setCell ⟨b, 6, none⟩ v
theorem ma_set {w : World} {b : Nat} {t : TypeId} {m : Ms} {v : Value} (h : Blk w b t (ma m v)) (x0 x1 x2 x3 x4 x5 : Int) (v' : Value) : Blk (sets w b x0 x1 x2 x3 x4 x5 v') b t #[.int .i64 x0, .int .i64 x1, .int .i64 x2, .int .i64 x3, .int .i64 x4, .int .i64 x5, v'] := by
  have := ((((((h.setCell 0 (.int .i64 x0)).setCell 1 (.int .i64 x1)).setCell 2 (.int .i64 x2)).setCell 3 (.int .i64 x3)).setCell 4 (.int .i64 x4)).setCell 5 (.int .i64 x5)).setCell 6 v'
  simpa using this
theorem sets_grown (w : World) (b : Nat) (x0 x1 x2 x3 x4 x5 : Int) (v : Value) : w.grownBy (sets w b x0 x1 x2 x3 x4 x5 v) (some b) :=
  ((((((grown_setCell w ⟨b, 0, none⟩ _).trans (grown_setCell _ ⟨b, 1, none⟩ _)).trans (grown_setCell _ ⟨b, 2, none⟩ _)).trans (grown_setCell _ ⟨b, 3, none⟩ _)).trans (grown_setCell _ ⟨b, 4, none⟩ _)).trans (grown_setCell _ ⟨b, 5, none⟩ _)).trans (grown_setCell _ ⟨b, 6, none⟩ _)
theorem rs_grown {w w' : World} {br : Nat} {xs : List UInt8} {s : RS} {row : Option Nat} (h : Rs w br xs s) (hg : w.grownBy w' row) (hb : ∀ k, row = some k → br < k) : Rs w' br xs s := by
  obtain ⟨A, n, c, h1, h2, h3, h4⟩ := h
  exact ⟨A, n, c, h1.grown hg (fun e => by have := hb br e.symm; omega), h2.grown hg (fun a ha e => by have := hb a.block e.symm; have := h3 a ha; omega), h3, h4⟩
theorem int_at (br : Nat) (y : List UInt8) (s s' : RS) (c z : Int) (w : World) (h : Rs w br y s) (hx : y.length ≤ 140737488355328) (hm : -9223372036854775808 ≤ c ∧ c ≤ 9223372036854775807) (hz : Hid (((rInt y c s).1 : Int) = z)) (hs : Hid ((rInt y c s).2 = s')) :
    Calls Try.prog 38 #[.pointer (some ⟨br, 0, none⟩), .int .i64 c] w fun r w' => r = .returned (.int .i64 z) ∧ Rs w' br y s' ∧ w.grownBy w' (some br) := by
  refine (int_ br y s c w h hx hm).mono ?_
  rintro r w' ⟨e, h1, h2⟩
  rw [← hz.out, ← hs.out]
  exact ⟨e, h1, h2⟩
/-- What the Reader reads, as a message's fields, and its states. -/
structure Run (c : Int) (y : List UInt8) (m : Ms) (s1 s2 s3 s4 s5 s6 s7 : RS) : Prop where
  z1 : Hid (((rInt y c ⟨0, 0, 0⟩).1 : Int) = m.fr)
  e1 : Hid ((rInt y c ⟨0, 0, 0⟩).2 = s1)
  z2 : Hid (((rInt y c s1).1 : Int) = m.to)
  e2 : Hid ((rInt y c s1).2 = s2)
  z3 : Hid (((rInt y 2147483648 s2).1 : Int) = m.k)
  e3 : Hid ((rInt y 2147483648 s2).2 = s3)
  z4 : Hid (((rInt y 2147483648 s3).1 : Int) = m.ep)
  e4 : Hid ((rInt y 2147483648 s3).2 = s4)
  z5 : Hid (((rInt y 2147483648 s4).1 : Int) = m.sq)
  e5 : Hid ((rInt y 2147483648 s4).2 = s5)
  z6 : Hid (((rInt y 2147483648 s5).1 : Int) = m.ac)
  e6 : Hid ((rInt y 2147483648 s5).2 = s6)
  z7 : Hid ((rPart y s6).1 = m.d)
  e7 : Hid ((rPart y s6).2 = s7)
  all : Hid (runM c y = m)
  ends : Hid ((st7 c y).2 = s7)
theorem run_all (c : Int) (y : List UInt8) : ∃ m s1 s2 s3 s4 s5 s6 s7, Run c y m s1 s2 s3 s4 s5 s6 s7 :=
  ⟨runM c y, (st1 c y).2, (st2 c y).2, (st3 c y).2, (st4 c y).2, (st5 c y).2, (st6 c y).2, (st7 c y).2, rfl, rfl, rfl, rfl, rfl, rfl, rfl, rfl, rfl, rfl, rfl, rfl, rfl, rfl, rfl, rfl⟩
section
variable (w : World)
set_option maxRecDepth 100000 in
set_option maxHeartbeats 4000000 in
theorem unpack_ (A : Option Addr) (n c : Nat) (x : List UInt8) (hr : Bs w A n x) (hA : A = none → n = 0 ∧ c = 0) (hnc : n ≤ c) (hc : c ≤ 9223372036854775807) (hnb : n ≤ 140737488351300) :
    Calls Try.prog 11 #[.slice A n c] w fun e w' => UnA w w' e x := by
  have Hl := Lib.hid hr.len
  have hres := Blk.new w 24 ma0 rfl
  obtain ⟨w1, hw1⟩ : ∃ w1, w.alloc (.cells ma0 24) = w1 := ⟨_, rfl⟩
  have hs1 : w1.heap.size = w.heap.size + 1 := by rw [← hw1]; simp
  have hb1 : Below w.heap.size w w1 := by rw [← hw1]; exact (Below.refl _ _).alloc (Nat.le_refl _) _
  rw [hw1] at hres
  have hr1 := hr.below hb1
  by_cases hop : openE x = 0
  · obtain ⟨m, s1, s2, s3, s4, s5, s6, s7, Z⟩ := run_all 15 (openL x)
    have Hop := Lib.hid hop
    obtain ⟨y, hy⟩ : ∃ y, openL x = y := ⟨_, rfl⟩
    have Hy := Lib.hid hy
    have hyl : y.length ≤ 140737488351300 := by rw [← hy]; have := openL_le x; have := Hl.out; omega
    rw [hy] at Z
    clear hop hy
    go_enter Try.func11, Try.ntmps11
    go_wp2_with fail
    refine (open_ A n c x _ hr1 hA hnc hc hnb).mono ?_
    rw [Hop.out, Hy.out]
    rintro e w2 ⟨v2, rfl, hown2, hb2⟩
    obtain ⟨A2, c2, rfl, hc2, hm2, ha2⟩ := own_form hown2
    have hres2 := hres.keep hb2
    have hB2 := below_step hb1 hb2 (by omega)
    have hs2 := hb2.size
    have hbs2 := bs_own hown2
    unfold maxLen at hm2
    obtain ⟨yn, hyn⟩ : ∃ n, y.length = n := ⟨_, rfl⟩
    have Hyn := Lib.hid hyn
    rw [hyn] at hbs2 hc2 ha2 hyl ⊢
    clear hyn hres hb1 hb2 hown2 hr1
    go_wp2_with fail
    refine (pnew_ A2 yn c2 y _ hbs2 ha2 hc2 hm2 hyl).mono ?_
    rintro e w3 ⟨br, rfl, hbr, hR, hb3⟩
    have hres3 := hres2.keep hb3
    have hB3 := below_step hB2 hb3 (by omega)
    have hs3 := hb3.size
    have hrg : w.heap.size < br := by omega
    have hy2 : y.length ≤ 140737488355328 := by rw [Hyn.out]; omega
    clear hbs2 hres2 hb3 hw1
    go_wp2_with fail
    refine (int_at br y ⟨0, 0, 0⟩ s1 15 _ _ hR hy2 (by omega) Z.z1 Z.e1).mono ?_
    rintro e w4 ⟨rfl, hR4, hg4⟩
    go_wp2_with fail
    refine (int_at br y s1 s2 15 _ _ hR4 hy2 (by omega) Z.z2 Z.e2).mono ?_
    rintro e w5 ⟨rfl, hR5, hg5⟩
    go_wp2_with fail
    refine (int_at br y s2 s3 2147483648 _ _ hR5 hy2 (by omega) Z.z3 Z.e3).mono ?_
    rintro e w6 ⟨rfl, hR6, hg6⟩
    go_wp2_with fail
    refine (int_at br y s3 s4 2147483648 _ _ hR6 hy2 (by omega) Z.z4 Z.e4).mono ?_
    rintro e w7 ⟨rfl, hR7, hg7⟩
    go_wp2_with fail
    refine (int_at br y s4 s5 2147483648 _ _ hR7 hy2 (by omega) Z.z5 Z.e5).mono ?_
    rintro e w8 ⟨rfl, hR8, hg8⟩
    go_wp2_with fail
    refine (int_at br y s5 s6 2147483648 _ _ hR8 hy2 (by omega) Z.z6 Z.e6).mono ?_
    rintro e w9 ⟨rfl, hR9, hg9⟩
    go_wp2_with fail
    refine (rpart_ br y s6 _ hR9 hy2).mono ?_
    rw [Z.z7.out, Z.e7.out]
    rintro e wa ⟨va, rfl, howna, hRa, hga⟩
    obtain ⟨Aa, ca, rfl, hca, hma, haa⟩ := own_form howna
    have hbr9 := Rr.lt hR9
    have hgr := (((((hg4.trans hg5).trans hg6).trans hg7).trans hg8).trans hg9)
    have hsa := hgr.size
    have hgra := hgr.trans hga
    have hsaa := hga.size
    have hfit : FitS m := by have := run_fit (c := 15) (by decide) (by decide) y; rwa [Z.all.out] at this
    have hdl : m.d.length ≤ 140737488351300 := by rw [← Z.z7.out]; have := rPart_le (y := y) (s := s6); have := Hyn.out; omega
    have hresa := hres3.grown hgra (fun e => by injection e with e; omega)
    have hBa : Below w.heap.size w wa := hB3.grown hgra hB3.size (fun k hk => by injection hk with hk; omega)
    obtain ⟨dn, hdn⟩ : ∃ n, m.d.length = n := ⟨_, rfl⟩
    have Hdn := Lib.hid hdn
    rw [hdn] at howna hca haa hdl ⊢
    have hma' := hma
    unfold maxLen at hma'
    clear hdn hres3 hB3 hR hR4 hR5 hR6 hR7 hR8 hR9 hg4 hg5 hg6 hg7 hg8 hg9 hga hgr hgra
    have hacb := Blk.new wa 24 (ma m (.slice Aa dn ca)) rfl
    obtain ⟨wb, hwb⟩ : ∃ wb, wa.alloc (.cells (ma m (.slice Aa dn ca)) 24) = wb := ⟨_, rfl⟩
    have hbb : Below wa.heap.size wa wb := by rw [← hwb]; exact (Below.refl _ _).alloc (Nat.le_refl _) _
    have hsb : wb.heap.size = wa.heap.size + 1 := by rw [← hwb]; simp
    rw [hwb] at hacb
    have hbrl := hRa.lt
    have hRb := Rs.below hRa hbb
    have hresb := hresa.keep hbb
    have hownb := (own_keep howna hbb)
    have howl : ∀ k, (Value.slice Aa dn ca).ownBlock = some k → br < k := fun k hk => by have := (hownb.lt k hk).1; omega
    have hBb := below_step hBa hbb (by omega)
    clear hRa hresa howna hBa hbb
    go_wp2_with fail
    refine (end_ br y s7 _ hRb).mono ?_
    obtain ⟨t, ht⟩ : ∃ t, rEnd y s7 = t := ⟨_, rfl⟩
    rw [ht]
    have Hend := Lib.hid (show (decide (t.e = 0) && decide (MayM m)) = decide (FormM y) by
      have := run_is (c := 15) (by decide) y
      rwa [Z.all.out, Z.ends.out, ht] at this)
    rintro e wc ⟨rfl, hRc, hgc⟩
    have hacc := hacb.grown hgc (fun e => by injection e with e; omega)
    have hresc := hresb.grown hgc (fun e => by injection e with e; omega)
    have hBc : Below w.heap.size w wc := hBb.grown hgc hBb.size (fun k hk => by injection hk with hk; omega)
    have hownc : wc.ownsRow w9.heap.size 5 1 (.slice Aa dn ca) dn (bvs m.d) := own_grown hownb hgc (fun k hk e => by injection e with e; have := (howl k hk); omega)
    have hsc := hgc.size
    obtain ⟨p, e0, f0⟩ := t
    have hef : e0 = 0 → f0 = 0 := fun h => Rr.none_f hRc h
    simp only at Hend
    obtain ⟨d0, d1, d2, d3, d4, d5, d6⟩ := ma_blk hacc
    obtain ⟨r0, r1, r2, r3, r4, r5, r6⟩ := ma_blk (m := zM) hresc
    have g0 := hresc.free 0
    have g1 := hresc.free 1
    have g2 := hresc.free 2
    have g3 := hresc.free 3
    have g4 := hresc.free 4
    have g5 := hresc.free 5
    have g6 := hresc.free 6
    clear hacb hresb hownb hBb hgc hRb hRc ht
    by_cases he : e0 = 0
    · obtain rfl := hef he
      subst he
      have hMd : Mdt wc m Aa dn ca := ⟨bs_own hownc, haa, hca, by omega, hdl, hfit⟩
      go_wp2_with fail
      refine (may_ _ m Aa dn ca hMd).mono ?_
      by_cases hM : MayM m
      · rw [decide_eq_true hM]
        rintro e wd ⟨rfl, hbd⟩
        have Hu := Lib.hid (show unE x = 0 ∧ unV x = m by
          have hF : FormM y := by
            have := Hend.out
            rw [decide_eq_true hM] at this
            exact of_decide_eq_true this.symm
          have h2 := unV_run (c := 15) (by decide) Hop.out (by rw [Hy.out]; exact hF)
          rw [Hy.out, Z.all.out] at h2
          exact h2)
        have haccd := hacc.keep hbd
        have hresd := hresc.keep hbd
        have hBd := below_step hBc hbd (by omega)
        have hownd := own_keep hownc hbd
        have hsd := hbd.size
        have HM := Lib.hid hM
        clear d0 d1 d2 d3 d4 d5 d6 r0 r1 r2 r3 r4 r5 r6 g0 g1 g2 g3 g4 g5 g6 hacc hresc hBc hownc hbd hMd hM
        obtain ⟨d0, d1, d2, d3, d4, d5, d6⟩ := ma_blk haccd
        obtain ⟨r0, r1, r2, r3, r4, r5, r6⟩ := ma_blk (m := zM) hresd
        have g0 := hresd.free 0
        have g1 := hresd.free 1
        have g2 := hresd.free 2
        have g3 := hresd.free 3
        have g4 := hresd.free 4
        have g5 := hresd.free 5
        have g6 := hresd.free 6
        go_wp2
        refine bodyPost_ret (results_msg rfl rfl (ma_set (m := zM) hresd m.fr m.to m.k m.ep m.sq m.ac (.slice Aa dn ca))) rfl ?_
        unfold UnA
        rw [Hu.out.1, Hu.out.2, Hdn.out]
        exact ⟨Aa, ca, rfl, (own_grown hownd (sets_grown _ _ _ _ _ _ _ _ _) (fun k hk e => by injection e with e; have := howl k hk; omega)).mono (by omega), hBd.grown (sets_grown _ _ _ _ _ _ _ _ _) hBd.size (fun k hk => by injection hk with hk; omega)⟩
      · rw [decide_eq_false hM]
        rintro e wd ⟨rfl, hbd⟩
        have Hu := Lib.hid (show unE x = 5 ∧ unV x = zM by
          have hF : ¬ FormM y := by
            have := Hend.out
            rw [decide_eq_false hM, Bool.and_false] at this
            exact of_decide_eq_false this.symm
          have h2 := (unE_of Hop.out).2
          rw [Hy.out, if_neg hF] at h2
          exact ⟨h2, unV_no (by rw [h2]; decide)⟩)
        have hresd := hresc.keep hbd
        have hBd := below_step hBc hbd (by omega)
        clear d0 d1 d2 d3 d4 d5 d6 r0 r1 r2 r3 r4 r5 r6 g0 g1 g2 g3 g4 g5 g6 hacc hresc hBc hownc hbd hMd hM
        obtain ⟨r0, r1, r2, r3, r4, r5, r6⟩ := ma_blk (m := zM) hresd
        have g0 := hresd.free 0
        have g1 := hresd.free 1
        have g2 := hresd.free 2
        have g3 := hresd.free 3
        have g4 := hresd.free 4
        have g5 := hresd.free 5
        have g6 := hresd.free 6
        go_wp2
        refine bodyPost_ret (results_msg rfl rfl (ma_set (m := zM) hresd 0 0 0 0 0 0 (.slice none 0 0))) rfl ?_
        unfold UnA
        rw [Hu.out.1, Hu.out.2]
        exact ⟨none, 0, rfl, own_nil _ _ _ _, hBd.grown (sets_grown _ _ _ _ _ _ _ _ _) hBd.size (fun k hk => by injection hk with hk; omega)⟩
    · have t1 : ((e0 : Int) == 0) = false := by simpa using he
      have t2 : ¬ (e0 : Int) = 0 := by omega
      have Hu := Lib.hid (show unE x = 5 ∧ unV x = zM by
        have hF : ¬ FormM y := by
          have := Hend.out
          rw [decide_eq_false he, Bool.false_and] at this
          exact of_decide_eq_false this.symm
        have h2 := (unE_of Hop.out).2
        rw [Hy.out, if_neg hF] at h2
        exact ⟨h2, unV_no (by rw [h2]; decide)⟩)
      go_wp2
      refine bodyPost_ret (results_msg rfl rfl (ma_set (m := zM) hresc 0 0 0 0 0 0 (.slice none 0 0))) rfl ?_
      unfold UnA
      rw [Hu.out.1, Hu.out.2]
      exact ⟨none, 0, rfl, own_nil _ _ _ _, hBc.grown (sets_grown _ _ _ _ _ _ _ _ _) hBc.size (fun k hk => by injection hk with hk; omega)⟩
  · obtain ⟨q1, q2, q3⟩ := unE_no hop
    have Q1 := Lib.hid q1
    have Q2 := Lib.hid q2
    have Q3 := Lib.hid q3
    clear q1 q2 q3 hop
    go_enter Try.func11, Try.ntmps11
    go_wp2_with fail
    refine (open_ A n c x _ hr1 hA hnc hc hnb).mono ?_
    rw [Q1.out]
    rintro e w2 ⟨v2, rfl, _, hb2⟩
    have hresc := hres.keep hb2
    have hBc := below_step hb1 hb2 (by omega)
    clear hres hb1 hb2 hr1 hw1
    obtain ⟨r0, r1, r2, r3, r4, r5, r6⟩ := ma_blk (m := zM) hresc
    have g0 := hresc.free 0
    have g1 := hresc.free 1
    have g2 := hresc.free 2
    have g3 := hresc.free 3
    have g4 := hresc.free 4
    have g5 := hresc.free 5
    have g6 := hresc.free 6
    go_wp2
    refine bodyPost_ret (results_msg rfl rfl (ma_set (m := zM) hresc 0 0 0 0 0 0 (.slice none 0 0))) rfl ?_
    unfold UnA
    rw [Q2.out, Q3.out]
    exact ⟨none, 0, rfl, own_nil _ _ _ _, hBc.grown (sets_grown _ _ _ _ _ _ _ _ _) hBc.size (fun k hk => by injection hk with hk; omega)⟩
end
/-- The message that was answered, as it lies there. -/
theorem UnA.got {w w' : World} {e : Ending} {x : List UInt8} (h : UnA w w' e x) (hx : x.length ≤ 140737488351300) : ∃ X n c, e = .returned (.tuple #[.agg (ma (unV x) (.slice X n c)), .int .i64 (unE x)]) ∧ Mdt w' (unV x) X n c ∧ w'.ownsRow w.heap.size 5 1 (.slice X n c) n (bvs (unV x).d) ∧ Below w.heap.size w w' := by
  obtain ⟨X, c, rfl, hown, hb⟩ := h
  obtain ⟨X', c', e, h1, h2, h3⟩ := own_form hown
  injection e with e1 e2 e3
  subst e1 e3
  unfold maxLen at h2
  have hf : FitS (unV x) ∧ (unV x).d.length ≤ 140737488351300 := by
    by_cases he : unE x = 0
    · obtain ⟨a, b⟩ := pack_un he
      exact ⟨a.fits, by have := a.2.2.2.2.2.2; omega⟩
    · rw [unV_no he]; exact ⟨zfit, by simp [zM]⟩
  exact ⟨X, _, c, rfl, ⟨bs_own hown, h3, h1, by omega, hf.2, hf.1⟩, hown, hb⟩
end Net
end Go.Proofs.Ytallbhdfbkkjkaa
