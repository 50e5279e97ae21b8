/- Layer 7: P7.1: a forest answers every call as the document says, and each tree's list, parts and blocks are the document's. No condition. -/
import Derived.Test.YtiehhmchokbafaaCowRg
set_option linter.all false
namespace Go.Proofs.Ytiehhmchokbafaa
open Go.ChangeShapes Go.WideShapes Go.ChangeAt Go.RowKit

/-- Both forests stand side by side. -/
structure Side (w0 wr : World) (f r : Nat) (ls : List Root) (tl : List (List Ext)) : Prop where
  fo : Fo wr w0.heap.size f ls
  ro : Ro wr w0.heap.size r tl
  like : tl = ls.map fun q => q.2.list
  below : Below w0.heap.size w0 wr
theorem Side.keep {w0 wr wx : World} {f r : Nat} {ls : List Root} {tl : List (List Ext)} (h : Side w0 wr f r ls tl) (hb : Below wr.heap.size wr wx) : Side w0 wx f r ls tl :=
  ⟨h.fo.below hb, h.ro.below hb, h.like, h.below.trans (hb.mono h.below.size)⟩
theorem Side.len {w0 wr : World} {f r : Nat} {ls : List Root} {tl : List (List Ext)} (h : Side w0 wr f r ls tl) : tl.length = ls.length := by rw [h.like, List.length_map]
theorem Side.err {w0 wr : World} {f r : Nat} {ls : List Root} {tl : List (List Ext)} (h : Side w0 wr f r ls tl) (z : Int) (ok : Bool) : rE tl z ok = chgE (rootAt ls z) ok := by
  have hl := h.len
  unfold rE
  by_cases c : 0 ≤ z ∧ z < tl.length
  · rw [if_pos c]
    cases hq : rootAt ls z with
    | none => exact absurd ⟨c.1, by omega⟩ (rootAt_none hq)
    | some q => rfl
  · rw [if_neg c]
    cases hq : rootAt ls z with
    | none => rfl
    | some q => obtain ⟨k, rfl, hk⟩ := rootAt_some hq; have := (List.getElem?_eq_some_iff.1 hk).1; exact absurd ⟨by omega, by omega⟩ c
theorem Side.at_ {w0 wr : World} {f r : Nat} {ls : List Root} {tl : List (List Ext)} (h : Side w0 wr f r ls tl) {k : Nat} {l : List Ext} {q : Root} (hl : tl[k]? = some l) (hq : ls[k]? = some q) : l = q.2.list := by
  rw [h.like, List.getElem?_map, hq] at hl
  injection hl with hl
  exact hl.symm
theorem enters_trees (vs : Array Value) (w : World) : (callFunc 15 vs).run Try.prog w = .ok (.enter 15 vs) w := by go_simp
set_option maxRecDepth 100000 in
set_option maxHeartbeats 16000000 in
theorem cowPlays_walk (S : Option Addr) (sn sc : Nat) (l : List ActV) (w : World) (hl : (Shp.slice actShp 48).R w [.slice S sn sc] l) (kl : Nat) (zl : Int) (xl : Ext) (fxl : Fit xl) :
    Calls Try.prog 3 #[.slice S sn sc, .agg #[.int .u8 (kl : Int), .int .i64 zl, .int .i64 xl.off, .int .i64 xl.len, .int .i64 xl.phys, .int .i64 xl.birth]] w fun e w' => e = .returned (.bool true) ∧ Below w.heap.size w w' := by
  obtain ⟨hn1, hn2, hn3⟩ := acts_len hl
  obtain ⟨w0, hw0⟩ : ∃ w0, w0 = w.alloc (.cells #[.int .u8 (kl : Int), .int .i64 zl, .int .i64 xl.off, .int .i64 xl.len, .int .i64 xl.phys, .int .i64 xl.birth] 26) := ⟨_, rfl⟩
  have hB0 : Below w.heap.size w w0 := by rw [hw0]; exact (Below.refl _ _).alloc (Nat.le_refl _) _
  have bk : Blk w0 w.heap.size 26 (actC kl zl xl) := by rw [hw0]; exact Blk.new _ _ _ rfl
  go_enter Try.func3, Try.ntmps3
  go_wp2_with fail
  rw [← hw0]
  clear hw0
  generalize hgb : w.heap.size = gb at *
  refine (newF_ w0).mono ?_
  rintro e w1 ⟨f, rfl, h1, hb1⟩
  go_wp2_with fail
  refine (rnewF_ w1).mono ?_
  rintro e w2 ⟨g, rfl, hg, hkg, hb2⟩
  have hb12 := hb1.trans (hb2.mono hb1.size)
  have hb3 : Below w2.heap.size w2 (w2.alloc (.cells #[.slice (some ⟨g, 0, none⟩) 1 1] 31)) := (Below.refl _ _).alloc (Nat.le_refl _) _
  have hside : Side w0 (w2.alloc (.cells #[.slice (some ⟨g, 0, none⟩) 1 1] 31)) f w2.heap.size [(none, .nil)] [[]] :=
    ⟨(h1.below hb2).below hb3, ⟨⟨.slice (some ⟨g, 0, none⟩) 1 1, [(none, 0, 0)], Blk.new _ _ _ rfl, ⟨rfl, .inr ⟨g, 1, _, rfl, Nat.le_trans hb1.size hg, hkg.keep hb3, Nat.le_refl _, by unfold maxLen; omega, rfl, rfl⟩⟩, rfl, fun i L x e1 e2 => by
      match i, e1, e2 with
      | 0, e1, e2 =>
        simp only [List.getElem?_cons_zero, Option.some.injEq] at e1 e2
        subst e1 e2
        exact eo_nil _ _⟩, fun x hx => by rw [List.mem_singleton.1 hx]; rfl, hb12.size, Nat.one_pos, by simp⟩, rfl, hb12.trans (hb3.mono hb12.size)⟩
  clear h1 hb1 hb2 hb12 hb3 hkg hg
  go_wp2_with fail
  refine (alive_ _).mono ?_
  rintro e w4 ⟨rfl, hb4⟩
  replace hside := hside.keep hb4
  clear hb4
  go_wp2_with fail
  refine (short_ S sn sc hn1 hn2 hn3 w4).mono ?_
  rintro e w5 ⟨rfl, rfl⟩
  have hm3 : min sn 300 ≤ 300 := Nat.min_le_right _ _
  have hms : min sn 300 ≤ sn := Nat.min_le_left _ _
  generalize min sn 300 = m at *
  generalize w2.heap.size = r at *
  clear hn1 hn2 hn3
  have hl0 := hl
  go_wp2_with fail
  go_loopw [42] (fun iv wr => ∃ (k : Nat) (ls : List Root) (tl : List (List Ext)), k ≤ m ∧ iv = .int .i64 (k : Int) ∧ ls.length ≤ k + 1 ∧ Side w0 wr f r ls tl) (fun iv _ => m - (intOf iv).toNat)
  case atStart => exact ⟨0, _, _, Nat.zero_le _, rfl, by simp, hside⟩
  case round =>
    obtain ⟨k, ls, tl, hk, rfl, hls, hS⟩ := hrel
    clear hside
    have HSl := Lib.hid hS.len
    by_cases hlt : k < m
    · have hil : (k : Int) < (m : Int) := by omega
      have hBr : Below gb w wr := hB0.trans (hS.below.mono (by have := hB0.size; omega))
      obtain ⟨b, o, rfl, kd, z, x, hkd, fr, fx, c0, c1, c2, c3, c4, c5⟩ := acts_later hl (by rw [hgb]; exact hBr) (show k < sn by omega)
      have hact := actA wr kd z x
      have hSa := hS.keep hact
      have hbox : Blk (wr.alloc (.cells (actC kd z x) 26)) wr.heap.size 26 (actC kd z x) := Blk.new _ _ _ rfl
      have hdo := does_ _ w0.heap.size f ls hSa.fo hSa.below.size (by omega) kd z x hkd fx
      unfold actC at hdo hSa hbox
      clear hl hl0 hact hBr
      go_wp2_with fail
      refine hdo.mono ?_
      intro e w5 hC
      clear hdo c0 c1 c2 c3 c4 c5 hS
      have herr := hSa.err z (actOk kd x)
      have htlf : tl.length < 100000 := by have := HSl.out; omega
      rcases hC with ⟨hne, rfl, hb5⟩ | ⟨q, q', hq, hok, rfl, hM⟩
      · have hS5 := hSa.keep hb5
        have hbox5 := hbox.keep hb5
        have hwd := would_ w5 w0.heap.size r tl hS5.ro hS5.below.size htlf kd z x hkd fx
        have x0 := hbox5.cell (j := 0) (u := .int .u8 (kd : Int)) rfl
        have x1 := hbox5.cell (j := 1) (u := .int .i64 z) rfl
        have x2 := hbox5.cell (j := 2) (u := .int .i64 x.off) rfl
        have x3 := hbox5.cell (j := 3) (u := .int .i64 x.len) rfl
        have x4 := hbox5.cell (j := 4) (u := .int .i64 x.phys) rfl
        have x5 := hbox5.cell (j := 5) (u := .int .i64 x.birth) rfl
        obtain ⟨er, her⟩ : ∃ er, er = chgE (rootAt ls z) (actOk kd x) := ⟨_, rfl⟩
        rw [← her] at hne herr ⊢
        clear her hSa hb5 hbox hbox5
        go_wp2_with fail
        refine hwd.mono ?_
        intro e w6 hR
        clear hwd x0 x1 x2 x3 x4 x5
        have hR2 : e = .returned (.tuple #[.int .i64 0, .int .i64 er]) ∧ Below w5.heap.size w5 w6 := by
          rcases hR with ⟨-, h2, h3⟩ | ⟨k2, l2, rfl, h2, h3, -, -⟩
          · rw [herr] at h2; exact ⟨h2, h3⟩
          · exfalso
            rw [h3, rE_yes ⟨by omega, by have := (List.getElem?_eq_some_iff.1 h2).1; omega⟩] at herr
            exact hne herr.symm
        obtain ⟨rfl, hb6⟩ := hR2
        have hS6 := hS5.keep hb6
        obtain ⟨N, hN⟩ : ∃ N, N = tl.length := ⟨_, rfl⟩
        have htr := treesF_ w6.drew w0.heap.size f ls hS6.fo.drew
        rw [← HSl.out, ← hN] at htr
        obtain ⟨bb, cc, hs0, -, -⟩ := hS6.ro.slot
        rw [← hN] at hs0
        clear hR hS5 hb6 herr hN
        go_wp2_with fail
        refine wp_region_noPanic ?_
        refine wp_region_held_drew (S := (fun w' => w'.cell? ⟨r, 0, none⟩ = some (.slice (some ⟨bb, 0, none⟩) N cc))) (by kernel_rfl) hs0 (fun _ => ?_)
        refine wpAnyH_take (i := 0) (oi := _) (v := ?_) rfl (by kernel_rfl) (by kernel_rfl) (by kernel_rfl) (fun _ _ _ h => h) (Or.inl ⟨by kernel_rfl, ?_⟩) hs0 ?_
        rotate_left
        · (rintro w s0; go_simp; (first | done | rfl))
        try simp only [Act.put, List.getElem_toArray, List.getElem_cons_zero, List.getElem_cons_succ, List.setIfInBounds_toArray, List.set_cons_zero, List.set_cons_succ]
        refine wpAnyH_take (i := 1) (oi := _) (v := ?_) rfl (by kernel_rfl) (by kernel_rfl) (by kernel_rfl) (fun _ _ _ h => h) (Or.inl ⟨by kernel_rfl, ?_⟩) hs0 ?_
        rotate_left
        · (rintro w s0; go_simp; (first | done | rfl))
        try simp only [Act.put, List.getElem_toArray, List.getElem_cons_zero, List.getElem_cons_succ, List.setIfInBounds_toArray, List.set_cons_zero, List.set_cons_succ]
        refine wpAnyH_take (i := 2) (oi := _) (v := ?_) rfl (by kernel_rfl) (by kernel_rfl) (by kernel_rfl) (fun _ _ _ h => h) (Or.inl ⟨by kernel_rfl, ?_⟩) hs0 ?_
        rotate_left
        · (rintro w s0; go_simp; (first | done | rfl))
        try simp only [Act.put, List.getElem_toArray, List.getElem_cons_zero, List.getElem_cons_succ, List.setIfInBounds_toArray, List.set_cons_zero, List.set_cons_succ]
        refine wpAnyH_take (i := 3) (oi := _) (v := ?_) rfl (by kernel_rfl) (by kernel_rfl) (by kernel_rfl) (fun _ _ _ h => h) (Or.inl ⟨by kernel_rfl, ?_⟩) hs0 ?_
        rotate_left
        · (rintro w s0; go_simp; (first | done | rfl))
        try simp only [Act.put, List.getElem_toArray, List.getElem_cons_zero, List.getElem_cons_succ, List.setIfInBounds_toArray, List.set_cons_zero, List.set_cons_succ]
        refine wpAnyH_take (i := 4) (oi := _) (v := ?_) rfl (by kernel_rfl) (by kernel_rfl) (by kernel_rfl) (fun _ _ _ h => h) (Or.inl ⟨by kernel_rfl, ?_⟩) hs0 ?_
        rotate_left
        · (rintro w s0; go_simp; (first | done | rfl))
        try simp only [Act.put, List.getElem_toArray, List.getElem_cons_zero, List.getElem_cons_succ, List.setIfInBounds_toArray, List.set_cons_zero, List.set_cons_succ]
        refine wpAnyH_take (i := 5) (oi := _) (v := ?_) rfl (by kernel_rfl) (by kernel_rfl) (by kernel_rfl) (fun _ _ _ h => h) (Or.inl ⟨by kernel_rfl, ?_⟩) hs0 ?_
        rotate_left
        · (rintro w s0; go_simp; (first | done | rfl))
        try simp only [Act.put, List.getElem_toArray, List.getElem_cons_zero, List.getElem_cons_succ, List.setIfInBounds_toArray, List.set_cons_zero, List.set_cons_succ]
        refine wpAnyH_take (i := 6) (oi := _) (v := ?_) rfl (by kernel_rfl) (by kernel_rfl) (by kernel_rfl) (fun _ _ _ h => h) (Or.inl ⟨by kernel_rfl, ?_⟩) hs0 ?_
        rotate_left
        · (rintro w s0; go_simp; (first | done | rfl))
        try simp only [Act.put, List.getElem_toArray, List.getElem_cons_zero, List.getElem_cons_succ, List.setIfInBounds_toArray, List.set_cons_zero, List.set_cons_succ]
        refine wpAnyH_take (i := 7) (oi := _) (v := ?_) rfl (by kernel_rfl) (by kernel_rfl) (by kernel_rfl) (fun _ _ _ h => h) (Or.inl ⟨by kernel_rfl, ?_⟩) hs0 ?_
        rotate_left
        · (rintro w s0; go_simp; (first | done | rfl))
        try simp only [Act.put, List.getElem_toArray, List.getElem_cons_zero, List.getElem_cons_succ, List.setIfInBounds_toArray, List.set_cons_zero, List.set_cons_succ]
        refine wpAnyH_take (i := 8) (oi := _) (v := ?_) rfl (by kernel_rfl) (by kernel_rfl) (by kernel_rfl) (fun _ _ _ h => h) (Or.inl ⟨by kernel_rfl, ?_⟩) hs0 ?_
        rotate_left
        · (rintro w s0; go_simp; (first | done | rfl))
        try simp only [Act.put, List.getElem_toArray, List.getElem_cons_zero, List.getElem_cons_succ, List.setIfInBounds_toArray, List.set_cons_zero, List.set_cons_succ]
        refine wpAnyH_take (i := 9) (oi := _) (v := ?_) rfl (by kernel_rfl) (by kernel_rfl) (by kernel_rfl) (fun _ _ _ h => h) (Or.inl ⟨by kernel_rfl, ?_⟩) hs0 ?_
        rotate_left
        · (rintro w s0; go_simp; (first | done | rfl))
        try simp only [Act.put, List.getElem_toArray, List.getElem_cons_zero, List.getElem_cons_succ, List.setIfInBounds_toArray, List.set_cons_zero, List.set_cons_succ]
        refine wpAnyH_take (i := 11) (oi := _) (v := ?_) rfl (by kernel_rfl) (by kernel_rfl) (by kernel_rfl) (fun _ _ _ h => h) (Or.inl ⟨by kernel_rfl, ?_⟩) hs0 ?_
        rotate_left
        · (rintro w s0; go_simp; (first | done | rfl))
        try simp only [Act.put, List.getElem_toArray, List.getElem_cons_zero, List.getElem_cons_succ, List.setIfInBounds_toArray, List.set_cons_zero, List.set_cons_succ]
        refine wpAnyH_take (i := 12) (oi := _) (v := ?_) rfl (by kernel_rfl) (by kernel_rfl) (by kernel_rfl) (fun _ _ _ h => h) (Or.inl ⟨by kernel_rfl, ?_⟩) hs0 ?_
        rotate_left
        · (rintro w s0; go_simp; (first | done | rfl))
        try simp only [Act.put, List.getElem_toArray, List.getElem_cons_zero, List.getElem_cons_succ, List.setIfInBounds_toArray, List.set_cons_zero, List.set_cons_succ]
        refine wpAnyH_take (i := 13) (oi := _) (v := ?_) rfl (by kernel_rfl) (by kernel_rfl) (by kernel_rfl) (fun _ _ _ h => h) (Or.inl ⟨by kernel_rfl, ?_⟩) hs0 ?_
        rotate_left
        · (rintro w s0; go_simp; (first | done | rfl))
        try simp only [Act.put, List.getElem_toArray, List.getElem_cons_zero, List.getElem_cons_succ, List.setIfInBounds_toArray, List.set_cons_zero, List.set_cons_succ]
        refine wpAnyH_ready (rs := [10]) (by kernel_rfl) (by simp) (AllReadyH.cons (o := _) rfl (fun K hK => ?_) AllReadyH.nil)
        rw [if_pos (by kernel_rfl)]
        refine wp_fn 15 _ _ rfl _ rfl enters_trees htr ?_
        rintro e w7 ⟨rfl, rfl⟩
        refine ⟨_, rfl, ?_⟩
        refine hK.out _ _ hs0 (fun _ => ?_)
        clear hK K
        try simp only [Act.put, List.getElem_toArray, List.getElem_cons_zero, List.getElem_cons_succ, List.setIfInBounds_toArray, List.set_cons_zero, List.set_cons_succ]
        refine wpAnyH_take (i := 14) (oi := _) (v := ?_) rfl (by kernel_rfl) (by kernel_rfl) (by kernel_rfl) (fun _ _ _ h => h) (Or.inl ⟨by kernel_rfl, ?_⟩) hs0 ?_
        rotate_left
        · (rintro w s0; go_simp; (first | done | rfl))
        try simp only [Act.put, List.getElem_toArray, List.getElem_cons_zero, List.getElem_cons_succ, List.setIfInBounds_toArray, List.set_cons_zero, List.set_cons_succ]
        refine wpAnyH_take (i := 15) (oi := _) (v := ?_) rfl (by kernel_rfl) (by kernel_rfl) (by kernel_rfl) (fun _ _ _ h => h) (Or.inl ⟨by kernel_rfl, ?_⟩) hs0 ?_
        rotate_left
        · (rintro w s0; go_simp; (first | done | rfl))
        try simp only [Act.put, List.getElem_toArray, List.getElem_cons_zero, List.getElem_cons_succ, List.setIfInBounds_toArray, List.set_cons_zero, List.set_cons_succ]
        refine wpAnyH_done (by kernel_rfl) ?_ _
        refine NoPanic.normal ?_
        go_wp2
        go_roundw
        case rel => exact ⟨k + 1, ls, tl, by omega, by go_num, by omega, hS6.keep (below_drewN (Below.refl _ _) 1)⟩
        case measure => simp [intOf]; omega
      · have h5 := hM.fo
        have hro5 := hSa.ro.ty hM.ty (by unfold FoT; decide) (by unfold FoT; decide) (by unfold FoT; decide)
        have hb15 := hSa.below.trans hM.below
        have hbox5 := hM.ty.block _ _ _ hbox (by unfold FoT; decide)
        have hwd := would_ w5 w0.heap.size r tl hro5 hb15.size htlf kd z x hkd fx
        have x0 := hbox5.cell (j := 0) (u := .int .u8 (kd : Int)) rfl
        have x1 := hbox5.cell (j := 1) (u := .int .i64 z) rfl
        have x2 := hbox5.cell (j := 2) (u := .int .i64 x.off) rfl
        have x3 := hbox5.cell (j := 3) (u := .int .i64 x.len) rfl
        have x4 := hbox5.cell (j := 4) (u := .int .i64 x.phys) rfl
        have x5 := hbox5.cell (j := 5) (u := .int .i64 x.birth) rfl
        rw [hq, hok] at herr
        have herr0 : rE tl z true = 0 := herr
        have hlist := hM.list
        obtain ⟨kz, rfl, hkz⟩ := rootAt_some hq
        have hlk := hSa.like
        have hata : ∀ l2, tl[kz]? = some l2 → ls[kz]? = some q → l2 = q.2.list := fun l2 a b => hSa.at_ a b
        clear hSa hbox hbox5 hM herr
        go_wp2_with fail
        refine hwd.mono ?_
        intro e w6 hR
        clear hwd x0 x1 x2 x3 x4 x5
        have hR2 : e = .returned (.tuple #[.int .i64 (tl.length : Int), .int .i64 0]) ∧ RMore w5 w6 w0.heap.size r tl (actOp kd x q.2.list) := by
          rcases hR with ⟨h1, -, -⟩ | ⟨k2, l2, hk2, h2, h3, h4, h5⟩
          · rw [hok] at h1; exact absurd herr0 h1
          · have : k2 = kz := by omega
            subst this
            rw [hata l2 h2 hkz] at h5
            exact ⟨h4, h5⟩
        obtain ⟨rfl, hRM⟩ := hR2
        have hS6 : Side w0 w6 f r (ls ++ [q']) (tl ++ [actOp kd x q.2.list]) :=
          ⟨h5.ty hRM.ty (by unfold RoT; decide) (by unfold RoT; decide) (by unfold RoT; decide), hRM.ro, by rw [hlk, List.map_append]; simp [hlist], hb15.trans hRM.below⟩
        have hls1 : (ls ++ [q']).length ≤ k + 1 + 1 := by simp; omega
        have hne0 : ((ls.length : Int) != (tl.length : Int)) = false := by rw [HSl.out]; simp
        obtain ⟨N, hN⟩ : ∃ N, N = (tl ++ [actOp kd x q.2.list]).length := ⟨_, rfl⟩
        have hSl6 := hS6.len
        have htr := treesF_ w6.drew w0.heap.size f _ hS6.fo.drew
        rw [← hSl6, ← hN] at htr
        obtain ⟨bb, cc, hs0, -, -⟩ := hS6.ro.slot
        rw [← hN] at hs0
        clear hR h5 hro5 hb15 hRM hN hSl6 hlk hata hlist hq hok herr0
        generalize (ls ++ [q']) = ls2 at *
        generalize (tl ++ [actOp kd x q.2.list]) = tl2 at *
        go_wp2_with fail
        refine wp_region_noPanic ?_
        refine wp_region_held_drew (S := (fun w' => w'.cell? ⟨r, 0, none⟩ = some (.slice (some ⟨bb, 0, none⟩) N cc))) (by kernel_rfl) hs0 (fun _ => ?_)
        refine wpAnyH_take (i := 0) (oi := _) (v := ?_) rfl (by kernel_rfl) (by kernel_rfl) (by kernel_rfl) (fun _ _ _ h => h) (Or.inl ⟨by kernel_rfl, ?_⟩) hs0 ?_
        rotate_left
        · (rintro w s0; go_simp; (first | done | rfl))
        try simp only [Act.put, List.getElem_toArray, List.getElem_cons_zero, List.getElem_cons_succ, List.setIfInBounds_toArray, List.set_cons_zero, List.set_cons_succ]
        refine wpAnyH_take (i := 1) (oi := _) (v := ?_) rfl (by kernel_rfl) (by kernel_rfl) (by kernel_rfl) (fun _ _ _ h => h) (Or.inl ⟨by kernel_rfl, ?_⟩) hs0 ?_
        rotate_left
        · (rintro w s0; go_simp; (first | done | rfl))
        try simp only [Act.put, List.getElem_toArray, List.getElem_cons_zero, List.getElem_cons_succ, List.setIfInBounds_toArray, List.set_cons_zero, List.set_cons_succ]
        refine wpAnyH_take (i := 2) (oi := _) (v := ?_) rfl (by kernel_rfl) (by kernel_rfl) (by kernel_rfl) (fun _ _ _ h => h) (Or.inl ⟨by kernel_rfl, ?_⟩) hs0 ?_
        rotate_left
        · (rintro w s0; go_simp; (first | done | rfl))
        try simp only [Act.put, List.getElem_toArray, List.getElem_cons_zero, List.getElem_cons_succ, List.setIfInBounds_toArray, List.set_cons_zero, List.set_cons_succ]
        refine wpAnyH_take (i := 3) (oi := _) (v := ?_) rfl (by kernel_rfl) (by kernel_rfl) (by kernel_rfl) (fun _ _ _ h => h) (Or.inl ⟨by kernel_rfl, ?_⟩) hs0 ?_
        rotate_left
        · (rintro w s0; go_simp; (first | done | rfl))
        try simp only [Act.put, List.getElem_toArray, List.getElem_cons_zero, List.getElem_cons_succ, List.setIfInBounds_toArray, List.set_cons_zero, List.set_cons_succ]
        refine wpAnyH_take (i := 4) (oi := _) (v := ?_) rfl (by kernel_rfl) (by kernel_rfl) (by kernel_rfl) (fun _ _ _ h => h) (Or.inl ⟨by kernel_rfl, ?_⟩) hs0 ?_
        rotate_left
        · (rintro w s0; go_simp; (first | done | rfl))
        try simp only [Act.put, List.getElem_toArray, List.getElem_cons_zero, List.getElem_cons_succ, List.setIfInBounds_toArray, List.set_cons_zero, List.set_cons_succ]
        refine wpAnyH_take (i := 5) (oi := _) (v := ?_) rfl (by kernel_rfl) (by kernel_rfl) (by kernel_rfl) (fun _ _ _ h => h) (Or.inl ⟨by kernel_rfl, ?_⟩) hs0 ?_
        rotate_left
        · (rintro w s0; go_simp; (first | done | rfl))
        try simp only [Act.put, List.getElem_toArray, List.getElem_cons_zero, List.getElem_cons_succ, List.setIfInBounds_toArray, List.set_cons_zero, List.set_cons_succ]
        refine wpAnyH_take (i := 6) (oi := _) (v := ?_) rfl (by kernel_rfl) (by kernel_rfl) (by kernel_rfl) (fun _ _ _ h => h) (Or.inl ⟨by kernel_rfl, ?_⟩) hs0 ?_
        rotate_left
        · (rintro w s0; go_simp; (first | done | rfl))
        try simp only [Act.put, List.getElem_toArray, List.getElem_cons_zero, List.getElem_cons_succ, List.setIfInBounds_toArray, List.set_cons_zero, List.set_cons_succ]
        refine wpAnyH_take (i := 7) (oi := _) (v := ?_) rfl (by kernel_rfl) (by kernel_rfl) (by kernel_rfl) (fun _ _ _ h => h) (Or.inl ⟨by kernel_rfl, ?_⟩) hs0 ?_
        rotate_left
        · (rintro w s0; go_simp; (first | done | rfl))
        try simp only [Act.put, List.getElem_toArray, List.getElem_cons_zero, List.getElem_cons_succ, List.setIfInBounds_toArray, List.set_cons_zero, List.set_cons_succ]
        refine wpAnyH_take (i := 8) (oi := _) (v := ?_) rfl (by kernel_rfl) (by kernel_rfl) (by kernel_rfl) (fun _ _ _ h => h) (Or.inl ⟨by kernel_rfl, ?_⟩) hs0 ?_
        rotate_left
        · (rintro w s0; go_simp; (first | done | rfl))
        try simp only [Act.put, List.getElem_toArray, List.getElem_cons_zero, List.getElem_cons_succ, List.setIfInBounds_toArray, List.set_cons_zero, List.set_cons_succ]
        refine wpAnyH_take (i := 9) (oi := _) (v := ?_) rfl (by kernel_rfl) (by kernel_rfl) (by kernel_rfl) (fun _ _ _ h => h) (Or.inl ⟨by kernel_rfl, ?_⟩) hs0 ?_
        rotate_left
        · (rintro w s0; go_simp; (first | done | rfl))
        try simp only [Act.put, List.getElem_toArray, List.getElem_cons_zero, List.getElem_cons_succ, List.setIfInBounds_toArray, List.set_cons_zero, List.set_cons_succ]
        refine wpAnyH_take (i := 11) (oi := _) (v := ?_) rfl (by kernel_rfl) (by kernel_rfl) (by kernel_rfl) (fun _ _ _ h => h) (Or.inl ⟨by kernel_rfl, ?_⟩) hs0 ?_
        rotate_left
        · (rintro w s0; go_simp; (first | done | rfl))
        try simp only [Act.put, List.getElem_toArray, List.getElem_cons_zero, List.getElem_cons_succ, List.setIfInBounds_toArray, List.set_cons_zero, List.set_cons_succ]
        refine wpAnyH_take (i := 12) (oi := _) (v := ?_) rfl (by kernel_rfl) (by kernel_rfl) (by kernel_rfl) (fun _ _ _ h => h) (Or.inl ⟨by kernel_rfl, ?_⟩) hs0 ?_
        rotate_left
        · (rintro w s0; go_simp; (first | done | rfl))
        try simp only [Act.put, List.getElem_toArray, List.getElem_cons_zero, List.getElem_cons_succ, List.setIfInBounds_toArray, List.set_cons_zero, List.set_cons_succ]
        refine wpAnyH_take (i := 13) (oi := _) (v := ?_) rfl (by kernel_rfl) (by kernel_rfl) (by kernel_rfl) (fun _ _ _ h => h) (Or.inl ⟨by kernel_rfl, ?_⟩) hs0 ?_
        rotate_left
        · (rintro w s0; go_simp; (first | done | rfl))
        try simp only [Act.put, List.getElem_toArray, List.getElem_cons_zero, List.getElem_cons_succ, List.setIfInBounds_toArray, List.set_cons_zero, List.set_cons_succ]
        refine wpAnyH_ready (rs := [10]) (by kernel_rfl) (by simp) (AllReadyH.cons (o := _) rfl (fun K hK => ?_) AllReadyH.nil)
        rw [if_pos (by kernel_rfl)]
        refine wp_fn 15 _ _ rfl _ rfl enters_trees htr ?_
        rintro e w7 ⟨rfl, rfl⟩
        refine ⟨_, rfl, ?_⟩
        refine hK.out _ _ hs0 (fun _ => ?_)
        clear hK K
        try simp only [Act.put, List.getElem_toArray, List.getElem_cons_zero, List.getElem_cons_succ, List.setIfInBounds_toArray, List.set_cons_zero, List.set_cons_succ]
        refine wpAnyH_take (i := 14) (oi := _) (v := ?_) rfl (by kernel_rfl) (by kernel_rfl) (by kernel_rfl) (fun _ _ _ h => h) (Or.inl ⟨by kernel_rfl, ?_⟩) hs0 ?_
        rotate_left
        · (rintro w s0; go_simp; (first | done | rfl))
        try simp only [Act.put, List.getElem_toArray, List.getElem_cons_zero, List.getElem_cons_succ, List.setIfInBounds_toArray, List.set_cons_zero, List.set_cons_succ]
        refine wpAnyH_take (i := 15) (oi := _) (v := ?_) rfl (by kernel_rfl) (by kernel_rfl) (by kernel_rfl) (fun _ _ _ h => h) (Or.inl ⟨by kernel_rfl, ?_⟩) hs0 ?_
        rotate_left
        · (rintro w s0; go_simp; (first | done | rfl))
        try simp only [Act.put, List.getElem_toArray, List.getElem_cons_zero, List.getElem_cons_succ, List.setIfInBounds_toArray, List.set_cons_zero, List.set_cons_succ]
        refine wpAnyH_done (by kernel_rfl) ?_ _
        refine NoPanic.normal ?_
        go_wp2
        go_roundw
        case rel => exact ⟨k + 1, ls2, tl2, by omega, by go_num, hls1, hS6.keep (below_drewN (Below.refl _ _) 1)⟩
        case measure => simp [intOf]; omega
    · have hin : (m : Int) ≤ (k : Int) := by omega
      clear hl hl0
      have hbk := bk.keep hS.below
      obtain ⟨bb, cc, hs0, hcc, hrows⟩ := hS.ro.slot
      have hSlen := hS.len
      have hBr : Below gb w wr := hB0.trans (hS.below.mono (by have := hB0.size; omega))
      have hqs : ∀ i, i < tl.length → ∃ q, ls[i]? = some q ∧ tl[i]? = some q.2.list := fun i hi => by
        obtain ⟨q, hq⟩ : ∃ q, ls[i]? = some q := ⟨_, List.getElem?_eq_getElem (by omega)⟩
        exact ⟨q, hq, by rw [hS.like, List.getElem?_map, hq]; rfl⟩
      have htlc : tl.length ≤ 301 := by omega
      clear hSlen bk hB0
      go_wp2_with fail
      go_loopw [77] (fun iv wx => ∃ i : Nat, i ≤ tl.length ∧ iv = .int .i64 (i : Int) ∧ Below wr.heap.size wr wx) (fun iv _ => tl.length - (intOf iv).toNat)
      case atStart => exact ⟨0, Nat.zero_le _, rfl, Below.refl _ _⟩
      case round =>
        obtain ⟨i, hi, rfl, hbx⟩ := hrel
        obtain ⟨wx, rfl⟩ : ∃ wx : World, wx = wr := ⟨_, rfl⟩
        by_cases hil : i < tl.length
        · have hii : (i : Int) < (tl.length : Int) := by omega
          have hi0 : (0 : Int) ≤ (i : Int) := by omega
          obtain ⟨q, hq, hlq⟩ := hqs i hil
          have hroot : rootAt ls (i : Int) = some q := (rootAt_nat _ _).trans hq
          obtain ⟨L, hcell0, hEs0, hle⟩ := hrows i _ hlq
          obtain ⟨La, Lm, Lc⟩ := L
          have hcell := (hbx.cell (cell_lt hcell0)).trans hcell0
          have hEs := hEs0.below hbx
          have hSx := hS.keep hbx
          have hrt := (hSx.fo.trees q (List.mem_of_getElem? hq)).2.2
          have hLm : Lm = q.2.list.length := hEs0.len
          have hqz := Tr.size_list q.2
          have hsize : q.2.size = Lm := by omega
          have bkx := hbk.keep hbx
          have x2 := bkx.cell (j := 2) (u := .int .i64 xl.off) rfl
          have x3 := bkx.cell (j := 3) (u := .int .i64 xl.len) rfl
          have hZ := fun W (hW : Fo W w0.heap.size f ls) => sizeF_ W w0.heap.size f ls hW (i : Int)
          have hA := fun W (hW : Fo W w0.heap.size f ls) => atF_ W w0.heap.size f ls hW (i : Int) xl.off fxl.off
          simp only [hroot, treeT, hsize] at hZ hA
          have hatR : atR q.2.list xl.off = atL q.2.list xl.off := by unfold atR; rw [if_pos hrt]
          clear hLm hqz hsize hcell0 hEs0 hlq
          go_wp2_with fail
          refine (listF_ wx w0.heap.size f _ hSx.fo (i : Int) q hroot).mono ?_
          rintro e wa ⟨Aa, ma, ca, rfl, ga, hba⟩
          replace hbx := hbx.trans (hba.mono hbx.size)
          replace hSx := hSx.keep hba
          replace hEs := hEs.below hba
          have za := ga.le
          have ea := ga.es
          clear ga hcell x2 x3 bkx hba
          have bkx := hbk.keep hbx
          have x2 := bkx.cell (j := 2) (u := .int .i64 xl.off) rfl
          have x3 := bkx.cell (j := 3) (u := .int .i64 xl.len) rfl
          go_wp2_with fail
          refine (partF_ wa w0.heap.size f _ hSx.fo (i : Int) xl.off xl.len fxl.off fxl.len q hroot).mono ?_
          rintro e wb ⟨Ab, mb, cb, rfl, gb2, hbb⟩
          replace hbx := hbx.trans (hbb.mono hbx.size)
          replace hSx := hSx.keep hbb
          replace hEs := hEs.below hbb
          replace ea := ea.below hbb
          have zb := gb2.le
          have eb := gb2.es
          clear gb2 x2 x3 bkx hbb
          have bkx := hbk.keep hbx
          have x2 := bkx.cell (j := 2) (u := .int .i64 xl.off) rfl
          have x3 := bkx.cell (j := 3) (u := .int .i64 xl.len) rfl
          go_wp2_with fail
          refine (rpartU wb La Lm Lc q.2.list hEs hle xl.off xl.len fxl.off fxl.len).mono ?_
          rw [hrt, Bool.true_and]
          rintro e wc ⟨Ac, mc, cc2, rfl, gc, hbc⟩
          replace hbx := hbx.trans (hbc.mono hbx.size)
          replace hSx := hSx.keep hbc
          replace hEs := hEs.below hbc
          replace ea := ea.below hbc
          replace eb := eb.below hbc
          have ec := gc.es
          clear gc x2 x3 bkx hbc
          generalize hpl : ifL (rangeB xl.off xl.len) (partL q.2.list xl.off (xl.off + xl.len)) = pl at *
          generalize errOf (rangeB xl.off xl.len) = er at *
          have bkx := hbk.keep hbx
          have x2 := bkx.cell (j := 2) (u := .int .i64 xl.off) rfl
          clear hpl
          go_wp2_with fail
          refine (hA wc hSx.fo).mono ?_
          rintro e wd ⟨rfl, hbd⟩
          replace hbx := hbx.trans (hbd.mono hbx.size)
          replace hSx := hSx.keep hbd
          replace hEs := hEs.below hbd
          replace ea := ea.below hbd
          replace eb := eb.below hbd
          replace ec := ec.below hbd
          clear x2 bkx hbd hA
          have bkx := hbk.keep hbx
          have x2 := bkx.cell (j := 2) (u := .int .i64 xl.off) rfl
          generalize atL q.2.list xl.off = av at *
          have HR := Lib.hid hatR
          clear hatR
          cases av with
          | none =>
            skip
            unfold atV
            go_wp2_with fail
            refine (rat_ wd La Lm Lc q.2.list xl.off hEs hle fxl.off).mono ?_
            rw [HR.out]
            rintro e we ⟨rfl, hbe⟩
            replace hbx := hbx.trans (hbe.mono hbx.size)
            replace hSx := hSx.keep hbe
            replace hEs := hEs.below hbe
            replace ea := ea.below hbe
            replace eb := eb.below hbe
            replace ec := ec.below hbe
            clear x2 bkx hbe
            unfold atV
            go_wp2_with fail
            refine (same_ we Aa La ma Lm ca Lc _ ea hEs za).mono ?_
            rintro e wf ⟨k1, rfl, rfl⟩
            have hSy := hSx.keep (below_drewN (Below.refl _ _) k1)
            go_wp2_with fail
            refine (same_ _ Ab Ac mb mc cb cc2 pl (eb.drewN k1) (ec.drewN k1) zb).mono ?_
            rintro e wf ⟨k2, rfl, rfl⟩
            have hSz := hSx.keep (below_drewN (Below.refl _ _) (k1 + k2))
            have hbz := hbx.trans ((below_drewN (Below.refl _ _) (k1 + k2)).mono hbx.size)
            clear hSx hSy ea eb ec hEs
            go_wp2_with fail
            refine (hZ _ hSz.fo).mono ?_
            rintro e wg ⟨rfl, hbg⟩
            have hbf := hbz.trans (hbg.mono hbz.size)
            go_wp2
            go_roundw
            case rel => exact ⟨i + 1, by omega, by go_num, hbf⟩
            case measure => simp [intOf]; omega
          | some pb =>
            obtain ⟨pu, pq⟩ := pb
            skip
            unfold atV
            go_wp2_with fail
            refine (rat_ wd La Lm Lc q.2.list xl.off hEs hle fxl.off).mono ?_
            rw [HR.out]
            rintro e we ⟨rfl, hbe⟩
            replace hbx := hbx.trans (hbe.mono hbx.size)
            replace hSx := hSx.keep hbe
            replace hEs := hEs.below hbe
            replace ea := ea.below hbe
            replace eb := eb.below hbe
            replace ec := ec.below hbe
            clear x2 bkx hbe
            unfold atV
            go_wp2_with fail
            refine (same_ we Aa La ma Lm ca Lc _ ea hEs za).mono ?_
            rintro e wf ⟨k1, rfl, rfl⟩
            have hSy := hSx.keep (below_drewN (Below.refl _ _) k1)
            go_wp2_with fail
            refine (same_ _ Ab Ac mb mc cb cc2 pl (eb.drewN k1) (ec.drewN k1) zb).mono ?_
            rintro e wf ⟨k2, rfl, rfl⟩
            have hSz := hSx.keep (below_drewN (Below.refl _ _) (k1 + k2))
            have hbz := hbx.trans ((below_drewN (Below.refl _ _) (k1 + k2)).mono hbx.size)
            clear hSx hSy ea eb ec hEs
            go_wp2_with fail
            refine (hZ _ hSz.fo).mono ?_
            rintro e wg ⟨rfl, hbg⟩
            have hbf := hbz.trans (hbg.mono hbz.size)
            go_wp2
            go_roundw
            case rel => exact ⟨i + 1, by omega, by go_num, hbf⟩
            case measure => simp [intOf]; omega
        · have hii : (tl.length : Int) ≤ (i : Int) := by omega
          have hSx := hS.keep hbx
          have hbw := hBr.trans (hbx.mono (by have := hBr.size; omega))
          have bkx := hbk.keep hbx
          have x1 := bkx.cell (j := 1) (u := .int .i64 zl) rfl
          have hh := fun W (hW : Ro W w0.heap.size r tl) => rhas_ W w0.heap.size r tl hW zl
          have hlen2 := HSl.out
          cases hq : rootAt ls zl with
          | none =>
            have hno := rootAt_none hq
            have hd : decide (0 ≤ zl ∧ zl < tl.length) = false := decide_eq_false (by rw [hlen2]; exact hno)
            simp only [hd] at hh
            clear hno hd hlen2 hS hbk hrows hqs hs0
            go_wp2_with fail
            refine (listF_no wx w0.heap.size f _ hSx.fo zl hq).mono ?_
            rintro e wa ⟨Aa, ma, ca, rfl, -, hba⟩
            replace hSx := hSx.keep hba
            replace hbw := hbw.trans (hba.mono (by have := hbw.size; omega))
            have bky := bkx.keep hba
            clear x1 bkx hba
            have x1 := bky.cell (j := 1) (u := .int .i64 zl) rfl
            go_wp2_with fail
            refine (partF_no wa w0.heap.size f _ hSx.fo zl 0 1 hq).mono ?_
            rintro e wb ⟨Ab, mb, cb, rfl, -, hbb⟩
            replace hSx := hSx.keep hbb
            replace hbw := hbw.trans (hbb.mono (by have := hbw.size; omega))
            have bkz := bky.keep hbb
            clear x1 bky hbb
            have x1 := bkz.cell (j := 1) (u := .int .i64 zl) rfl
            go_wp2_with fail
            refine (hh wb hSx.ro).mono ?_
            rintro e wc ⟨rfl, rfl⟩
            go_wp2_with fail
            refine (hh wb hSx.ro).mono ?_
            rintro e wc ⟨rfl, rfl⟩
            go_wp2_with fail
            refine (hh wb hSx.ro).mono ?_
            rintro e wc ⟨rfl, rfl⟩
            go_wp2
            go_ret
            subst hgb
            exact ⟨rfl, hbw⟩
          | some q =>
            obtain ⟨kz, rfl, hkz⟩ := rootAt_some hq
            have hd : decide (0 ≤ (kz : Int) ∧ (kz : Int) < tl.length) = true := decide_eq_true (by have := (List.getElem?_eq_some_iff.1 hkz).1; omega)
            simp only [hd] at hh
            have e01 : errOf (rangeB 0 1) = 0 := rfl
            clear hd hlen2 hS hbk hrows hqs hs0 hkz
            go_wp2_with fail
            refine (listF_ wx w0.heap.size f _ hSx.fo (kz : Int) q hq).mono ?_
            rintro e wa ⟨Aa, ma, ca, rfl, -, hba⟩
            replace hSx := hSx.keep hba
            replace hbw := hbw.trans (hba.mono (by have := hbw.size; omega))
            have bky := bkx.keep hba
            clear x1 bkx hba
            have x1 := bky.cell (j := 1) (u := .int .i64 (kz : Int)) rfl
            go_wp2_with fail
            refine (partF_ wa w0.heap.size f _ hSx.fo (kz : Int) 0 1 (by unfold I64; omega) (by unfold I64; omega) q hq).mono ?_
            rw [e01]
            rintro e wb ⟨Ab, mb, cb, rfl, -, hbb⟩
            replace hSx := hSx.keep hbb
            replace hbw := hbw.trans (hbb.mono (by have := hbw.size; omega))
            have bkz := bky.keep hbb
            clear x1 bky hbb
            have x1 := bkz.cell (j := 1) (u := .int .i64 (kz : Int)) rfl
            go_wp2_with fail
            refine (hh wb hSx.ro).mono ?_
            rintro e wc ⟨rfl, rfl⟩
            go_wp2_with fail
            refine (hh wb hSx.ro).mono ?_
            rintro e wc ⟨rfl, rfl⟩
            go_wp2_with fail
            refine (hh wb hSx.ro).mono ?_
            rintro e wc ⟨rfl, rfl⟩
            go_wp2
            go_ret
            subst hgb
            exact ⟨rfl, hbw⟩
set_option maxRecDepth 100000 in
theorem cowPlays_lifted (os : Os) (started : os.Started) (H : Type) (enc : TypeId × Value → H) :
    ReturnsInHanded {} Try.checked os 3 .any (Rows.cowPlaysSpec.pre6 enc Try.prog Try.f3 Rows.cowPlaysRow.domain false) (Rows.cowPlaysSpec.post enc Try.prog Try.f3 false true false false) := by
  refine law_lifted (C := Try.checked) (tb := 4) own_ started (by kernel_rfl) Try.func3
    (ChangeSpec.witness6 (enc := enc) (C := Try.checked) false ⟨#[], #[.slice none 0 0, .agg #[.int .u8 0, .int .i64 0, .int .i64 0, .int .i64 0, .int .i64 0, .int .i64 0]], []⟩ 8 (by kernel_rfl) (by kernel_rfl) (by kernel_rfl) (by kernel_rfl))
    rfl rfl Try.underlying4 laidOut_ (by kernel_rfl) (fun ds h => by match ds, h with | [_, _], _ => rfl) ?_
  intro W base args ds p hval0 hA0 _ hsz0
  have hval : ∀ (j : Nat) t v, Try.f3.params[j]? = some t → args[j]? = some v → Value.okWide Try.prog W .any base t v := hval0
  have hA : DataW.TrodAll enc Try.prog W 0 (fun _ => true) true Try.f3.params.toList args.toList ds p := hA0
  have hsz : (DataW.weightsEach Try.prog Try.f3.params.toList ds).all (· ≤ reachBytes) = true := hsz0
  clear hval0 hA0 hsz0
  rw [Try.params3] at hA hval hsz
  obtain ⟨v0, v1, d0, d1, p0, p1, rfl, rfl, rfl, h0, h1⟩ := trodAll_two hA
  obtain ⟨A0, n0, c0, xs0, rfl, r0, b0⟩ := arg_slice ops_acts Try.underlying22 (hval 0 _ v0 rfl rfl) h0 (weight_at hsz (j := 0) rfl rfl)
  obtain ⟨cs1, a1, rfl, r1, b1⟩ := arg_struct ops_act Try.underlying26 (hval 1 _ v1 rfl rfl) h1 (weight_at hsz (j := 1) rfl rfl)
  obtain ⟨rfl, q1, q2⟩ := act_arr r1
  exact cowPlays_walk A0 n0 c0 xs0 W r0 _ _ _ q2

/-- CowPlays, for every input: the statement as it was given. -/
theorem cowPlays_holds : Rows.CowPlaysSaid :=
  OpenClaim.holds_of_wide 3 Try.f3 rfl rfl rfl rfl rfl rfl rfl ⟨rfl, rfl, rfl, rfl, rfl⟩ rfl rfl rfl rfl rfl (by kernel_rfl) Try.func3 (by kernel_rfl)
    (of_decide_eq_true (by kernel_rfl)) (by unfold Func.isWrapper; first | (rw [if_pos (by decide +kernel)]; kernel_rfl) | (rw [if_neg (by decide +kernel)]; exact ⟨rfl, rfl⟩))
    (fun os started H enc _ => cowPlays_lifted os started H enc)
end Go.Proofs.Ytiehhmchokbafaa
