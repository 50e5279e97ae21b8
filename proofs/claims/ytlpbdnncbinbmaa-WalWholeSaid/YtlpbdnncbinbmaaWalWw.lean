/- Proves WalWhole of layer 4 (the log), for every input, with no condition: whenever the power goes off, in a Commit or in an Open, and whichever sectors are kept, the places are then as behind all changes that were done, or behind these and the one that was broken off, whole, and Number says which. -/
import Derived.Test.YtlpbdnncbinbmaaWalZ
namespace Go.Proofs.Ytlpbdnncbinbmaa
open Go.ChangeShapes Go.WideShapes Go.ChangeAt Go.RowKit Go.Maps

set_option maxRecDepth 100000 in
set_option maxHeartbeats 4000000 in
theorem walWhole_walk (z : Nat) (S : Option Addr) (n c : Nat) (acts : List ActV) (w : World) (hz : z < 256) (hS : (Shp.slice actShp 80).R w [.slice S n c] acts) :
    Calls Try.prog 4 #[.int .u8 (z : Int), .slice S n c] w fun e w' => e = .returned (.bool true) ∧ Below w.heap.size w w' := by
  have hn80 := acts_len hS
  go_enter Try.func4, Try.ntmps4
  have hN1 : 10 ≤ z % 20 + 10 := by omega
  have hN2 : z % 20 + 10 ≤ 256 := by omega
  have hsz := fun w => size_ z w hz
  generalize z % 20 + 10 = N at *
  go_wp2_with fail
  refine (hsz w).mono ?_
  rintro e w' ⟨rfl, rfl⟩
  go_wp2_with fail
  refine (begin_ N w hN1 hN2).mono ?_
  rintro e w1 ⟨g, b, s1, t1, rfl, hg0, hb1, hL1, hst1, ht1, hn1, hf1⟩
  go_wp2_with fail
  refine (hsz w1).mono ?_
  rintro e w' ⟨rfl, rfl⟩
  have hz1 := hb1.size
  go_wp2_with fail
  refine (rnew_ N w1 hN1 hN2).mono ?_
  rintro e w2 ⟨A2, c2, rfl, hp2, hc2, hm2, hb2⟩
  have hz2 := hb2.size
  have hbl1 := hL1.blt
  have hq3 : Blk (w2.alloc (mdO (.slice A2 (N - 9) c2) 0)) w2.heap.size 30 (mdC (.slice A2 (N - 9) c2) 0) := Blk.new w2 _ _ rfl
  have hp3 := (hp2.mono (F' := fun q => g + 3 ≤ q ∧ q ≠ w2.heap.size ∧ q ≠ b) (fun q hq hF => by have := hL1.lt; omega)).below ((Below.refl w2.heap.size w2).alloc (Nat.le_refl _) (mdO (.slice A2 (N - 9) c2) 0))
  have hL3 := (hL1.below hb2).alloc (mdO (.slice A2 (N - 9) c2) 0)
  have hB3 : Below w.heap.size w (w2.alloc (mdO (.slice A2 (N - 9) c2) 0)) := (hb1.trans (hb2.mono hz1)).alloc (by omega) _
  clear hp2 hL1 hb1 hb2
  go_wp2_with fail
  generalize (w2.alloc (mdO (.slice A2 (N - 9) c2) 0)) = w3 at *
  refine (alive_ w3).mono ?_
  rintro e w4 ⟨rfl, hb4⟩
  have hL4 := hL3.below hb4
  have hq4 := hq3.keep hb4
  have hp4 := hp3.below hb4
  have hB4 := hB3.trans (hb4.mono hB3.size)
  have hblm : b < w2.heap.size := by omega
  have hgq : g + 3 ≤ w2.heap.size := by have := hL4.lt; omega
  clear hL3 hq3 hp3 hb4
  go_wp2_with fail
  obtain ⟨qm, hqm⟩ : ∃ qm, qm = w2.heap.size := ⟨_, rfl⟩
  rw [← hqm] at hq4 hp4 hblm hgq ⊢
  clear hqm
  have hbq : b ≠ qm := by omega
  have hgb : w.heap.size ≤ b := by have := hL4.lt; omega
  clear hblm
  go_loopw [36, 6] (fun i v wr => ∃ j : Nat, j ≤ n ∧ i = .int .i64 (j : Int) ∧ ∃ b s t nl P A c, v = .pointer (some ⟨b, 0, none⟩) ∧ Lk wr g b s nl ∧ St s t nl P ∧ s.fuse = -1 ∧ s.n = N ∧ t ≤ 3 + 10 * j ∧ nl ≤ j ∧ Blk wr qm 30 (mdC (.slice A (N - 9) c) nl) ∧ Pls wr (fun q => g + 3 ≤ q ∧ q ≠ qm ∧ q ≠ b) A (N - 9) (rowsOf P (N - 9)) ∧ b ≠ qm ∧ w.heap.size ≤ b ∧ Below w.heap.size w wr) (fun i _ _ => n - (intOf i).toNat)
  case atStart => exact ⟨0, Nat.zero_le _, rfl, b, s1, t1, 0, zeroP, A2, c2, rfl, hL4, hst1, hf1, hn1, by omega, Nat.le_refl _, hq4, hp4, hbq, hgb, hB4⟩
  case round =>
    clear hL4 hst1 ht1 hn1 hf1 hB4 hq4 hp4 hbq hgb
    obtain ⟨j, hj, rfl, b, s, t, nl, P, Am, cm, rfl, hL, hst, hf, hsn, htj, hnl, hq, hp, hbq, hgb, hB⟩ := hrel
    by_cases hlt : j < n
    · obtain ⟨sb, so, rfl, A, un, uc, ul, f, Bk, m, d, ks, Ck, ck, cc, ag, c0, c1, c2', c3, hact⟩ := acts_later hS hB hlt
      have hzw := hB.size
      have hgl := hL.disk.lt
      have hbl := hL.blt
      have hblt := hL.lt
      have hfr := hact.fIn
      have hL3 := hL.alloc (.cells #[.slice A un uc, .int .i64 f, .slice Bk m d, .slice Ck ck cc] 38)
      have hbx : Blk (wr.alloc (.cells #[.slice A un uc, .int .i64 f, .slice Bk m d, .slice Ck ck cc] 38)) wr.heap.size 38 #[.slice A un uc, .int .i64 f, .slice Bk m d, .slice Ck ck cc] := Blk.new wr _ _ rfl
      have hact3 := hact.below hzw ((Below.refl w.heap.size wr).alloc hzw (.cells #[.slice A un uc, .int .i64 f, .slice Bk m d, .slice Ck ck cc] 38))
      have hB3 := hB.alloc hzw (.cells #[.slice A un uc, .int .i64 f, .slice Bk m d, .slice Ck ck cc] 38)
      have hq3 := hq.alloc (.cells #[.slice A un uc, .int .i64 f, .slice Bk m d, .slice Ck ck cc] 38)
      have hp3 := hp.below ((Below.refl wr.heap.size wr).alloc (Nat.le_refl _) (.cells #[.slice A un uc, .int .i64 f, .slice Bk m d, .slice Ck ck cc] 38))
      have hz3 : wr.heap.size + 1 = (wr.alloc (.cells #[.slice A un uc, .int .i64 f, .slice Bk m d, .slice Ck ck cc] 38)).heap.size := by simp
      have hunl := hact3.unLe
      have hqml := hq.lt
      clear hL hB hq hp hact
      go_wp2_with fail
      generalize wr.alloc (.cells #[.slice A un uc, .int .i64 f, .slice Bk m d, .slice Ck ck cc] 38) = w3 at *
      refine (right_ qm (N - 9) cm nl g (b + 1) Am A un uc ul w3 hq3 (hact3.uss g (b + 1) hg0) (by omega) (by omega)).mono ?_
      rintro e w4 ⟨rfl, hb4⟩
      have hL4 := hL3.below hb4
      have hbx4 := hbx.keep hb4
      have hq4 := hq3.keep hb4
      have hp4 := hp3.below hb4
      have hB4 := hB3.trans (hb4.mono hB3.size)
      have hz4 := hb4.size
      have hact4 := hact3.below (by omega) (hb4.mono (by omega))
      have x1 := hbx4.cell (j := 1) (u := .int .i64 f) rfl
      clear hL3 hbx hq3 hp3 hact3 c0 c1 c2' c3
      by_cases hf0 : 0 ≤ f
      · have hf0' : ¬ f < 0 := by omega
        go_wp2_with fail
        refine (arm_ g s _ f hL4.disk hfr).mono ?_
        rintro e w5 ⟨rfl, hd5, ht5⟩
        have hL5 : Lk w5 g b (s.arm f) nl := ⟨hd5, ht5.blk hL4.log (.inr (by omega)), hblt, hL4.least⟩
        have hbx5 := ht5.blk hbx4 (.inr (by omega))
        have hq5 := ht5.blk hq4 (.inr (by omega))
        have ht5' := ht5.wide (show g ≤ g + 2 by omega) (Nat.le_refl _)
        have hp5 := hp4.tl (Tl.disk (b := b) ht5') (fun q hq => by omega)
        have hst5 := arm_st hst f
        have hY5 : Below w.heap.size w4 w5 := ht5'.below (by omega) (by omega)
        have hB5 := hB4.trans hY5
        have hact5 := hact4.below (by omega) hY5
        have hz5 := hY5.size
        have hn5 : (s.arm f).n = N := hsn
        have hf5 : (s.arm f).fuse = f := rfl
        clear hL4 hbx4 hq4 hp4 hB4 ht5 ht5' hd5 hst hf hact4 x1
        generalize s.arm f = s5 at *
        have x0 := hbx5.cell (j := 0) (u := .slice A un uc) rfl
        go_wp2_with fail
        refine (theirs_ g (b + 1) A un uc ul _ (hact5.uss g (b + 1) hg0) (by have := hL5.blt; omega) hunl).mono ?_
        rintro e w6 ⟨A6, c6, rfl, hU6, hb6⟩
        have hL6 := hL5.below hb6
        have hbx6 := hbx5.keep hb6
        have hq6 := hq5.keep hb6
        have hp6 := hp5.below hb6
        have hB6 := hB5.trans (hb6.mono hB5.size)
        have hz6 := hb6.size
        clear hL5 hbx5 hq5 hp5 x0
        go_wp2_with fail
        refine (commit_any g b s5 t nl P A6 un c6 ul _ hL6 hst5 hU6 (by omega) (by unfold topN; omega) (by unfold topN; omega)).mono ?_
        rintro e w7 ⟨E, s7, n7, rfl, hfz7, hT7, hL7, hC⟩
        have hbx7 := hT7.blk hbx6 (.inr (by omega)) (by omega)
        have hq7 := hT7.blk hq6 (.inr (by omega)) (fun e => hbq e.symm)
        have hp7 := hp6.tl hT7 (fun q hq => by omega)
        have hB7 := hB6.trans (hT7.below hg0 (by omega) (by have := hB6.size; omega))
        have hz7 := hT7.size
        have hn7 := hfz7.n.trans hn5
        have hact7 := hact5.below (by omega) ((hb6.mono (by omega)).trans (hT7.below hg0 (by omega) (by omega)))
        have hN9 : s5.n - 9 = N - 9 := by rw [hn5]
        unfold Comm at hC
        rw [hN9] at hC
        clear hL6 hbx6 hq6 hp6 hU6 hact5
        have HRZ := Lib.hid (fun h => rightE_zero (m := N - 9) (l := ul) h)
        obtain ⟨R, hR⟩ : ∃ R, rightE (N - 9) ul = R := ⟨_, rfl⟩
        rw [hR] at hC HRZ ⊢
        clear hR
        have y0 := hbx7.cell (j := 0) (u := .slice A un uc) rfl
        have y1 := hbx7.cell (j := 1) (u := .int .i64 f) rfl
        have y2 := hbx7.cell (j := 2) (u := .slice Bk m d) rfl
        have y3 := hbx7.cell (j := 3) (u := .slice Ck ck cc) rfl
        have hbxl := hbx7.lt
        have hblt7 := hL7.lt
        obtain ⟨hr, rfl, rfl, rfl⟩ | ⟨rfl, rfl, rfl, t', ht', hst'⟩ | ⟨rfl, rfl, rfl, hfu, hrec⟩ := hC
        · have hr' : ¬ (E : Int) = 0 := by omega
          go_wp2_with fail
          refine (restart_ (fun m Q => m = n7 ∧ Q = P) g t s7 (.slice A un uc) f Bk m d ks Ck ck cc ag _ rfl hL7.disk hL7.least (hst5.rec_ (Nat.le_refl _) (by unfold topN; omega) ⟨rfl, rfl⟩) (by unfold topN; omega) hact7.bls (by have := hact7.mLe; omega) (fun a ha h0 => .inl (by have := hact7.bB a ha h0; omega)) hact7.bs hact7.hC hact7.kc hact7.cLe (fun a ha h0 => .inl (by have := hact7.bC a ha h0; omega))).mono ?_
          rintro e w8 ⟨b8, s8, t8, n8, P8, rfl, hK8, ht8, hn8, hst8, hL8, hnn8, hf8, hT8, hb8⟩
          have hq8 := hT8.blk hq7 (.inr hgq)
          have hp8 := (hp7.mono (F' := fun q => g + 3 ≤ q ∧ q ≠ qm ∧ q ≠ b8) (fun q hq hF => by omega)).tl (Tl.disk (b := b8) hT8) (fun q hq => by omega)
          have hB8 := hB7.trans (hT8.below hg0 (by have := hB7.size; omega))
          have hbx8 := hT8.blk hbx7 (.inr (by omega))
          have hact8 := hact7.below (by have := hB7.size; omega) (hT8.below hg0 (by have := hB7.size; omega))
          have hbq8 : b8 ≠ qm := by have := hq7.lt; omega
          have hz8 := hT8.size
          have hblt8 := hL8.lt
          have hsn8 : s8.n = N := hnn8.trans hn7
          obtain ⟨rfl, rfl⟩ := hK8
          have hbl8 := hL8.blt
          have hql8 := hq8.lt
          have htold := told_ g b8 s8 t8 n8 P8 w8 hL8 hst8 (by unfold topN; omega) hn8
          rw [hsn8] at htold
          go_wp2_with fail
          refine htold.mono ?_
          rintro e w9 ⟨A9, c9, rfl, hp9, hc9, hm9, hL9, ht9⟩
          have hq9 := ht9.blk hq8 (by omega)
          have hp9m := hp8.tl (Tl.log (g := g) ht9) (fun q hq => by omega)
          have hbx9 := ht9.blk hbx8 (by omega)
          have hB9 := hB8.trans (ht9.below (by omega) (by omega))
          have hz9 := ht9.size
          have hact9 := hact8.below (by omega) (ht9.below (show w.heap.size ≤ b8 by omega) (by omega))
          have hq10 := hq9.alloc (mdO (.slice A9 (N - 9) c9) n8)
          have hp10 := hp9m.below ((Below.refl w9.heap.size w9).alloc (Nat.le_refl _) (mdO (.slice A9 (N - 9) c9) n8))
          have hpt10 := hp9.below ((Below.refl w9.heap.size w9).alloc (Nat.le_refl _) (mdO (.slice A9 (N - 9) c9) n8))
          have hbx10 := hbx9.alloc (mdO (.slice A9 (N - 9) c9) n8)
          have hL10 := hL9.alloc (mdO (.slice A9 (N - 9) c9) n8)
          have hB10 := hB9.alloc hB9.size (mdO (.slice A9 (N - 9) c9) n8)
          have hact10 := hact9.below (by omega) ((Below.refl w.heap.size w9).alloc (by omega) (mdO (.slice A9 (N - 9) c9) n8))
          have hn10 : Blk (w9.alloc (mdO (.slice A9 (N - 9) c9) n8)) w9.heap.size 30 (mdC (.slice A9 (N - 9) c9) n8) := Blk.new w9 _ _ rfl
          have hz10 : w9.heap.size + 1 = (w9.alloc (mdO (.slice A9 (N - 9) c9) n8)).heap.size := by simp
          clear hq8 hp8 hbx8 hL8 hB8 hq9 hp9m hp9 hbx9 hL9 hB9 htold hact9 hact8
          go_wp2_with fail
          generalize w9.alloc (mdO (.slice A9 (N - 9) c9) n8) = w10 at *
          go_quiet (fail)
          have hd := below_drewN (Below.refl w10.heap.size w10) nq
          have hq11 := hq10.keep hd
          have hp11 := hp10.below hd
          have hpt11 := hpt10.below hd
          have hbx11 := hbx10.keep hd
          have hL11 := hL10.below hd
          have hB11 := hB10.trans (hd.mono hB10.size)
          have hn11 := hn10.keep hd
          have hact11 := hact10.below (by omega) (hd.mono (by omega))
          have hz11 := hd.size
          generalize (w10.drewN nq) = w11 at *
          have u0 := hn11.cell (j := 0) (u := .slice A9 (N - 9) c9) rfl
          have u1 := hn11.cell (j := 1) (u := .int .i64 (n8 : Int)) rfl
          have v0 := hq11.cell (j := 0) (u := .slice Am (N - 9) cm) rfl
          have v1 := hq11.cell (j := 1) (u := .int .i64 (n8 : Int)) rfl
          go_wp2_with fail
          refine (same_ _ _ A9 Am (N - 9) c9 cm n8 (rowsOf P8 (N - 9)) _ hpt11 hp11 (by omega)).mono ?_
          rintro e w12 ⟨rfl, hb12⟩
          have hq12 := hq11.keep hb12
          have hp12 := hp11.below hb12
          have hL12 := hL11.below hb12
          have hB12 := hB11.trans (hb12.mono hB11.size)
          clear u0 u1 v0 v1 hb12
          go_wp2
          go_roundw
          case rel => exact ⟨j + 1, by omega, by go_num, b8, s8, t8, n8, _, Am, cm, rfl, hL12, hst8, hf8, hsn8, by omega, by omega, hq12, hp12, hbq8, (by omega), hB12⟩
          case measure => simp [intOf]; omega
        · obtain ⟨hgood, hl6⟩ := HRZ.out rfl
          have HG := Lib.hid hgood
          clear hgood
          go_wp2_with fail
          refine (done_ (fun q => g + 3 ≤ q ∧ q ≠ qm ∧ q ≠ b) qm (N - 9) cm nl g (b + 1) Am A un uc ul P _ hq7 hp7 (hact7.uss g (b + 1) hg0) (by omega) (by omega) HG.out hl6 (by omega) hp7.some_).mono ?_
          rintro e wd ⟨Ad, cd, rfl, hpd, hcd, hmd, hbd⟩
          have hqd := hq7.keep hbd
          have hLd := hL7.below hbd
          have hBd := hB7.trans (hbd.mono hB7.size)
          have hzd := hbd.size
          have m0 := hqd.cell (j := 0) (u := .slice Am (N - 9) cm) rfl
          have m1 := hqd.cell (j := 1) (u := .int .i64 (nl : Int)) rfl
          have mf0 := hqd.free 0
          have mf1 := hqd.free 1
          have hset := grown2 wd qm (.slice Ad (N - 9) cd) (.int .i64 ((nl : Int) + 1))
          have hqs := hqd.set2 (.slice Ad (N - 9) cd) (.int .i64 ((nl : Int) + 1))
          have hps := (hpd.mono (F' := fun q => g + 3 ≤ q ∧ q ≠ qm ∧ q ≠ b) (fun q hq hF => by have := hq7.lt; have := hL7.blt; have := hL7.lt; omega)).grown hset (fun q hq e => by injection e with e; exact hq.2.1 e)
          have hLs : Lk ((wd.setCell ⟨qm, 0, none⟩ (.slice Ad (N - 9) cd)).setCell ⟨qm, 1, none⟩ (.int .i64 ((nl : Int) + 1))) g b s7 (nl + 1) := ⟨hLd.disk.tn (Tn.ofGrown (lo := qm) (hi := qm + 1) hset (Nat.le_refl _) (Nat.lt_succ_self _)) (.inl (by omega)), hLd.log.grown hset (by intro e; injection e with e; exact hbq e), hLd.lt, hLd.least⟩
          have hBs := hBd.grown hset hBd.size (fun k e => by injection e with e; omega)
          have hzs : wd.heap.size = ((wd.setCell ⟨qm, 0, none⟩ (.slice Ad (N - 9) cd)).setCell ⟨qm, 1, none⟩ (.int .i64 ((nl : Int) + 1))).heap.size := by simp
          have hacts := hact7.below (by have := hB7.size; omega) ((hbd.mono hB7.size).grown hset hBd.size (fun k e => by injection e with e; omega))
          have hbxs := (hbx7.keep hbd).grown hset (by intro e; injection e with e; omega)
          have z0 := hbxs.cell (j := 0) (u := .slice A un uc) rfl
          have z1 := hbxs.cell (j := 1) (u := .int .i64 f) rfl
          have z2 := hbxs.cell (j := 2) (u := .slice Bk m d) rfl
          have z3 := hbxs.cell (j := 3) (u := .slice Ck ck cc) rfl
          have hbdl := (hbx7.keep hbd).cell (j := 1) (u := .int .i64 f) rfl
          go_wp2_with fail
          generalize ((wd.setCell ⟨qm, 0, none⟩ (.slice Ad (N - 9) cd)).setCell ⟨qm, 1, none⟩ (.int .i64 ((nl : Int) + 1))) = wz at *
          refine (restart_ (fun m Q => m = nl + 1 ∧ Q = doneP ul P) g t' s7 (.slice A un uc) f Bk m d ks Ck ck cc ag _ rfl hLs.disk hLs.least (hst'.rec_ (Nat.le_refl _) (by unfold topN; omega) ⟨rfl, rfl⟩) (by unfold topN; omega) hacts.bls (by have := hacts.mLe; omega) (fun a ha h0 => .inl (by have := hacts.bB a ha h0; omega)) hacts.bs hacts.hC hacts.kc hacts.cLe (fun a ha h0 => .inl (by have := hacts.bC a ha h0; omega))).mono ?_
          rintro e w8 ⟨b8, s8, t8, n8, P8, rfl, hK8, ht8, hn8, hst8, hL8, hnn8, hf8, hT8, hb8⟩
          have hq8 := hT8.blk hqs (.inr hgq)
          have hp8 := (hps.mono (F' := fun q => g + 3 ≤ q ∧ q ≠ qm ∧ q ≠ b8) (fun q hq hF => by omega)).tl (Tl.disk (b := b8) hT8) (fun q hq => by omega)
          have hB8 := hBs.trans (hT8.below hg0 (by have := hBs.size; omega))
          have hbx8 := hT8.blk hbxs (.inr (by omega))
          have hact8 := hacts.below (by have := hBs.size; omega) (hT8.below hg0 (by have := hBs.size; omega))
          have hbq8 : b8 ≠ qm := by have := hqs.lt; omega
          have hz8 := hT8.size
          have hblt8 := hL8.lt
          have hsn8 : s8.n = N := hnn8.trans hn7
          obtain ⟨hK1, rfl⟩ := hK8
          have hnc : (nl : Int) + 1 = (n8 : Int) := by omega
          rw [hnc] at hq8
          have HK1 := Lib.hid hK1
          clear hK1 hnc
          have hbl8 := hL8.blt
          have hql8 := hq8.lt
          have htold := told_ g b8 s8 t8 n8 (doneP ul P) w8 hL8 hst8 (by unfold topN; omega) hn8
          rw [hsn8] at htold
          go_wp2_with fail
          refine htold.mono ?_
          rintro e w9 ⟨A9, c9, rfl, hp9, hc9, hm9, hL9, ht9⟩
          have hq9 := ht9.blk hq8 (by omega)
          have hp9m := hp8.tl (Tl.log (g := g) ht9) (fun q hq => by omega)
          have hbx9 := ht9.blk hbx8 (by omega)
          have hB9 := hB8.trans (ht9.below (by omega) (by omega))
          have hz9 := ht9.size
          have hact9 := hact8.below (by omega) (ht9.below (show w.heap.size ≤ b8 by omega) (by omega))
          have hq10 := hq9.alloc (mdO (.slice A9 (N - 9) c9) n8)
          have hp10 := hp9m.below ((Below.refl w9.heap.size w9).alloc (Nat.le_refl _) (mdO (.slice A9 (N - 9) c9) n8))
          have hpt10 := hp9.below ((Below.refl w9.heap.size w9).alloc (Nat.le_refl _) (mdO (.slice A9 (N - 9) c9) n8))
          have hbx10 := hbx9.alloc (mdO (.slice A9 (N - 9) c9) n8)
          have hL10 := hL9.alloc (mdO (.slice A9 (N - 9) c9) n8)
          have hB10 := hB9.alloc hB9.size (mdO (.slice A9 (N - 9) c9) n8)
          have hact10 := hact9.below (by omega) ((Below.refl w.heap.size w9).alloc (by omega) (mdO (.slice A9 (N - 9) c9) n8))
          have hn10 : Blk (w9.alloc (mdO (.slice A9 (N - 9) c9) n8)) w9.heap.size 30 (mdC (.slice A9 (N - 9) c9) n8) := Blk.new w9 _ _ rfl
          have hz10 : w9.heap.size + 1 = (w9.alloc (mdO (.slice A9 (N - 9) c9) n8)).heap.size := by simp
          clear hq8 hp8 hbx8 hL8 hB8 hq9 hp9m hp9 hbx9 hL9 hB9 htold hact9 hact8
          go_wp2_with fail
          generalize w9.alloc (mdO (.slice A9 (N - 9) c9) n8) = w10 at *
          go_quiet (fail)
          have hd := below_drewN (Below.refl w10.heap.size w10) nq
          have hq11 := hq10.keep hd
          have hp11 := hp10.below hd
          have hpt11 := hpt10.below hd
          have hbx11 := hbx10.keep hd
          have hL11 := hL10.below hd
          have hB11 := hB10.trans (hd.mono hB10.size)
          have hn11 := hn10.keep hd
          have hact11 := hact10.below (by omega) (hd.mono (by omega))
          have hz11 := hd.size
          generalize (w10.drewN nq) = w11 at *
          have u0 := hn11.cell (j := 0) (u := .slice A9 (N - 9) c9) rfl
          have u1 := hn11.cell (j := 1) (u := .int .i64 (n8 : Int)) rfl
          have v0 := hq11.cell (j := 0) (u := .slice Ad (N - 9) cd) rfl
          have v1 := hq11.cell (j := 1) (u := .int .i64 (n8 : Int)) rfl
          go_wp2_with fail
          refine (same_ _ _ A9 Ad (N - 9) c9 cd n8 (rowsOf (doneP ul P) (N - 9)) _ hpt11 hp11 (by omega)).mono ?_
          rintro e w12 ⟨rfl, hb12⟩
          have hq12 := hq11.keep hb12
          have hp12 := hp11.below hb12
          have hL12 := hL11.below hb12
          have hB12 := hB11.trans (hb12.mono hB11.size)
          clear u0 u1 v0 v1 hb12
          go_wp2
          have hK1 := HK1.out
          go_roundw
          case rel => exact ⟨j + 1, by omega, by go_num, b8, s8, t8, n8, _, Ad, cd, rfl, hL12, hst8, hf8, hsn8, by omega, by omega, hq12, hp12, hbq8, (by omega), hB12⟩
          case measure => simp [intOf]; omega
        · obtain ⟨hgood, hl6⟩ := HRZ.out rfl
          have HG := Lib.hid hgood
          clear hgood hfu
          go_wp2_with fail
          refine (restart_ (Kc n7 P ul) g (t + 2) s7 (.slice A un uc) f Bk m d ks Ck ck cc ag _ rfl hL7.disk hL7.least (by have := hfz7.n; rw [this]; exact hrec) (by unfold topN; omega) hact7.bls (by have := hact7.mLe; omega) (fun a ha h0 => .inl (by have := hact7.bB a ha h0; omega)) hact7.bs hact7.hC hact7.kc hact7.cLe (fun a ha h0 => .inl (by have := hact7.bC a ha h0; omega))).mono ?_
          rintro e w8 ⟨b8, s8, t8, n8, P8, rfl, hK8, ht8, hn8, hst8, hL8, hnn8, hf8, hT8, hb8⟩
          have hq8 := hT8.blk hq7 (.inr hgq)
          have hp8 := (hp7.mono (F' := fun q => g + 3 ≤ q ∧ q ≠ qm ∧ q ≠ b8) (fun q hq hF => by omega)).tl (Tl.disk (b := b8) hT8) (fun q hq => by omega)
          have hB8 := hB7.trans (hT8.below hg0 (by have := hB7.size; omega))
          have hbx8 := hT8.blk hbx7 (.inr (by omega))
          have hact8 := hact7.below (by have := hB7.size; omega) (hT8.below hg0 (by have := hB7.size; omega))
          have hbq8 : b8 ≠ qm := by have := hq7.lt; omega
          have hz8 := hT8.size
          have hblt8 := hL8.lt
          have hsn8 : s8.n = N := hnn8.trans hn7
          have hbl8 := hL8.blt
          have hql8 := hq8.lt
          have htold := told_ g b8 s8 t8 n8 P8 w8 hL8 hst8 (by unfold topN; omega) hn8
          rw [hsn8] at htold
          go_wp2_with fail
          refine htold.mono ?_
          rintro e w9 ⟨A9, c9, rfl, hp9, hc9, hm9, hL9, ht9⟩
          have hq9 := ht9.blk hq8 (by omega)
          have hp9m := hp8.tl (Tl.log (g := g) ht9) (fun q hq => by omega)
          have hbx9 := ht9.blk hbx8 (by omega)
          have hB9 := hB8.trans (ht9.below (by omega) (by omega))
          have hz9 := ht9.size
          have hact9 := hact8.below (by omega) (ht9.below (show w.heap.size ≤ b8 by omega) (by omega))
          have hq10 := hq9.alloc (mdO (.slice A9 (N - 9) c9) n8)
          have hp10 := hp9m.below ((Below.refl w9.heap.size w9).alloc (Nat.le_refl _) (mdO (.slice A9 (N - 9) c9) n8))
          have hpt10 := hp9.below ((Below.refl w9.heap.size w9).alloc (Nat.le_refl _) (mdO (.slice A9 (N - 9) c9) n8))
          have hbx10 := hbx9.alloc (mdO (.slice A9 (N - 9) c9) n8)
          have hL10 := hL9.alloc (mdO (.slice A9 (N - 9) c9) n8)
          have hB10 := hB9.alloc hB9.size (mdO (.slice A9 (N - 9) c9) n8)
          have hact10 := hact9.below (by omega) ((Below.refl w.heap.size w9).alloc (by omega) (mdO (.slice A9 (N - 9) c9) n8))
          have hn10 : Blk (w9.alloc (mdO (.slice A9 (N - 9) c9) n8)) w9.heap.size 30 (mdC (.slice A9 (N - 9) c9) n8) := Blk.new w9 _ _ rfl
          have hz10 : w9.heap.size + 1 = (w9.alloc (mdO (.slice A9 (N - 9) c9) n8)).heap.size := by simp
          clear hq8 hp8 hbx8 hL8 hB8 hq9 hp9m hp9 hbx9 hL9 hB9 htold hact9 hact8
          go_wp2_with fail
          generalize w9.alloc (mdO (.slice A9 (N - 9) c9) n8) = w10 at *
          have w0' := hbx10.cell (j := 0) (u := .slice A un uc) rfl
          have k1 := hq10.cell (j := 1) (u := .int .i64 (n7 : Int)) rfl
          obtain ⟨rfl, rfl⟩ | ⟨rfl, rfl⟩ := hK8
          · have hne : ¬ (n8 : Int) = (n8 : Int) + 1 := by omega
            go_quiet (first | (go_at_call 22; exact Calls.quiet_of_same ((number_log g b8 s8 n8 _ (hL10.below (below_drewN (Below.refl _ _) _))).mono fun _ _ ⟨h1, h2⟩ => ⟨h1, h2.symm⟩)))
            have hd := below_drewN (Below.refl w10.heap.size w10) nq
            have hq11 := hq10.keep hd
            have hp11 := hp10.below hd
            have hpt11 := hpt10.below hd
            have hbx11 := hbx10.keep hd
            have hL11 := hL10.below hd
            have hB11 := hB10.trans (hd.mono hB10.size)
            have hn11 := hn10.keep hd
            have hact11 := hact10.below (by omega) (hd.mono (by omega))
            have hz11 := hd.size
            generalize (w10.drewN nq) = w11 at *
            have u0 := hn11.cell (j := 0) (u := .slice A9 (N - 9) c9) rfl
            have u1 := hn11.cell (j := 1) (u := .int .i64 (n8 : Int)) rfl
            have v0 := hq11.cell (j := 0) (u := .slice Am (N - 9) cm) rfl
            have v1 := hq11.cell (j := 1) (u := .int .i64 (n8 : Int)) rfl
            go_wp2_with fail
            refine (same_ _ _ A9 Am (N - 9) c9 cm n8 (rowsOf P8 (N - 9)) _ hpt11 hp11 (by omega)).mono ?_
            rintro e w12 ⟨rfl, hb12⟩
            have hq12 := hq11.keep hb12
            have hp12 := hp11.below hb12
            have hL12 := hL11.below hb12
            have hB12 := hB11.trans (hb12.mono hB11.size)
            clear u0 u1 v0 v1 hb12
            go_wp2
            go_roundw
            case rel => exact ⟨j + 1, by omega, by go_num, b8, s8, t8, n8, _, Am, cm, rfl, hL12, hst8, hf8, hsn8, by omega, by omega, hq12, hp12, hbq8, (by omega), hB12⟩
            case measure => simp [intOf]; omega
          · have hcst : ((n7 + 1 : Nat) : Int) = (n7 : Int) + 1 := by omega
            go_quiet (first | (go_at_call 22; exact Calls.quiet_of_same ((number_log g b8 s8 (n7 + 1) _ (hL10.below (below_drewN (Below.refl _ _) _))).mono fun _ _ ⟨h1, h2⟩ => ⟨h1, h2.symm⟩)))
            have hd := below_drewN (Below.refl w10.heap.size w10) nq
            have hq11 := hq10.keep hd
            have hp11 := hp10.below hd
            have hpt11 := hpt10.below hd
            have hbx11 := hbx10.keep hd
            have hL11 := hL10.below hd
            have hB11 := hB10.trans (hd.mono hB10.size)
            have hn11 := hn10.keep hd
            have hact11 := hact10.below (by omega) (hd.mono (by omega))
            have hz11 := hd.size
            generalize (w10.drewN nq) = w11 at *
            have w0 := hbx11.cell (j := 0) (u := .slice A un uc) rfl
            go_wp2_with fail
            refine (done_ (fun q => g + 3 ≤ q ∧ q ≠ qm ∧ q ≠ b8) qm (N - 9) cm n7 g (b8 + 1) Am A un uc ul P _ hq11 hp11 (hact11.uss g (b8 + 1) hg0) (by omega) (by omega) HG.out hl6 (by omega) hp11.some_).mono ?_
            rintro e wd ⟨Ad, cd, rfl, hpd, hcd, hmd, hbd⟩
            have hqd := hq11.keep hbd
            have hLd := hL11.below hbd
            have hBd := hB11.trans (hbd.mono hB11.size)
            have hzd := hbd.size
            have m0 := hqd.cell (j := 0) (u := .slice Am (N - 9) cm) rfl
            have m1 := hqd.cell (j := 1) (u := .int .i64 (n7 : Int)) rfl
            have mf0 := hqd.free 0
            have mf1 := hqd.free 1
            have hset := grown2 wd qm (.slice Ad (N - 9) cd) (.int .i64 ((n7 : Int) + 1))
            have hqs := hqd.set2 (.slice Ad (N - 9) cd) (.int .i64 ((n7 : Int) + 1))
            have hps := (hpd.mono (F' := fun q => g + 3 ≤ q ∧ q ≠ qm ∧ q ≠ b8) (fun q hq hF => by have := hq11.lt; have := hL11.blt; have := hL11.lt; omega)).grown hset (fun q hq e => by injection e with e; exact hq.2.1 e)
            have hLs : Lk ((wd.setCell ⟨qm, 0, none⟩ (.slice Ad (N - 9) cd)).setCell ⟨qm, 1, none⟩ (.int .i64 ((n7 : Int) + 1))) g b8 s8 (n7 + 1) := ⟨hLd.disk.tn (Tn.ofGrown (lo := qm) (hi := qm + 1) hset (Nat.le_refl _) (Nat.lt_succ_self _)) (.inl (by omega)), hLd.log.grown hset (by intro e; injection e with e; exact hbq8 e), hLd.lt, hLd.least⟩
            have hBs := hBd.grown hset hBd.size (fun k e => by injection e with e; omega)
            have hzs : wd.heap.size = ((wd.setCell ⟨qm, 0, none⟩ (.slice Ad (N - 9) cd)).setCell ⟨qm, 1, none⟩ (.int .i64 ((n7 : Int) + 1))).heap.size := by simp
            have hns := (hn11.keep hbd).grown hset (by intro e; injection e with e; omega)
            have hpts := (hpt11.below hbd).grown hset (fun q hq e => by injection e with e; omega)
            have u0 := hns.cell (j := 0) (u := .slice A9 (N - 9) c9) rfl
            have u1 := hns.cell (j := 1) (u := .int .i64 ((n7 + 1 : Nat) : Int)) rfl
            have v0 := hqs.cell (j := 0) (u := .slice Ad (N - 9) cd) rfl
            have v1 := hqs.cell (j := 1) (u := .int .i64 ((n7 : Int) + 1)) rfl
            go_wp2_with fail
            refine (same_ _ _ A9 Ad (N - 9) c9 cd (n7 + 1) (rowsOf (doneP ul P) (N - 9)) _ hpts hps (by omega)).mono ?_
            rintro e w12 ⟨rfl, hb12⟩
            have hq12 := hqs.keep hb12
            have hp12 := hps.below hb12
            have hL12 := hLs.below hb12
            have hB12 := hBs.trans (hb12.mono hBs.size)
            clear u0 u1 v0 v1 hb12
            go_wp2
            go_roundw
            case rel => exact ⟨j + 1, by omega, by go_num, b8, s8, t8, (n7 + 1), _, Ad, cd, rfl, hL12, hst8, hf8, hsn8, by omega, by omega, hq12, hp12, hbq8, (by omega), hB12⟩
            case measure => simp [intOf]; omega
      · have hf0' : f < 0 := by omega
        obtain ⟨w5, hw5⟩ : ∃ w5, w5 = w4 := ⟨_, rfl⟩
        subst hw5
        have hL5 := hL4
        have hbx5 := hbx4
        have hq5 := hq4
        have hp5 := hp4
        have hB5 := hB4
        have hact5 := hact4
        have hst5 := hst
        have hz5 := hz4
        have hn5 := hsn
        have hf5 := hf
        obtain ⟨s5, hs5⟩ : ∃ s5, s5 = s := ⟨_, rfl⟩
        subst hs5
        clear hL4 hbx4 hq4 hp4 hB4 hact4 hst hsn hf
        have x0 := hbx5.cell (j := 0) (u := .slice A un uc) rfl
        go_wp2_with fail
        refine (theirs_ g (b + 1) A un uc ul _ (hact5.uss g (b + 1) hg0) (by have := hL5.blt; omega) hunl).mono ?_
        rintro e w6 ⟨A6, c6, rfl, hU6, hb6⟩
        have hL6 := hL5.below hb6
        have hbx6 := hbx5.keep hb6
        have hq6 := hq5.keep hb6
        have hp6 := hp5.below hb6
        have hB6 := hB5.trans (hb6.mono hB5.size)
        have hz6 := hb6.size
        clear hL5 hbx5 hq5 hp5 x0
        go_wp2_with fail
        refine (commit_any g b s5 t nl P A6 un c6 ul _ hL6 hst5 hU6 (by omega) (by unfold topN; omega) (by unfold topN; omega)).mono ?_
        rintro e w7 ⟨E, s7, n7, rfl, hfz7, hT7, hL7, hC⟩
        have hbx7 := hT7.blk hbx6 (.inr (by omega)) (by omega)
        have hq7 := hT7.blk hq6 (.inr (by omega)) (fun e => hbq e.symm)
        have hp7 := hp6.tl hT7 (fun q hq => by omega)
        have hB7 := hB6.trans (hT7.below hg0 (by omega) (by have := hB6.size; omega))
        have hz7 := hT7.size
        have hn7 := hfz7.n.trans hn5
        have hact7 := hact5.below (by omega) ((hb6.mono (by omega)).trans (hT7.below hg0 (by omega) (by omega)))
        have hN9 : s5.n - 9 = N - 9 := by rw [hn5]
        unfold Comm at hC
        rw [hN9] at hC
        clear hL6 hbx6 hq6 hp6 hU6 hact5
        have HRZ := Lib.hid (fun h => rightE_zero (m := N - 9) (l := ul) h)
        obtain ⟨R, hR⟩ : ∃ R, rightE (N - 9) ul = R := ⟨_, rfl⟩
        rw [hR] at hC HRZ ⊢
        clear hR
        have y0 := hbx7.cell (j := 0) (u := .slice A un uc) rfl
        have y1 := hbx7.cell (j := 1) (u := .int .i64 f) rfl
        have y2 := hbx7.cell (j := 2) (u := .slice Bk m d) rfl
        have y3 := hbx7.cell (j := 3) (u := .slice Ck ck cc) rfl
        have hbxl := hbx7.lt
        have hblt7 := hL7.lt
        obtain ⟨hr, rfl, rfl, rfl⟩ | ⟨rfl, rfl, rfl, t', ht', hst'⟩ | ⟨rfl, rfl, rfl, hfu, hrec⟩ := hC
        · have hr' : ¬ (E : Int) = 0 := by omega
          go_wp2
          go_roundw
          case rel => exact ⟨j + 1, by omega, by go_num, b, s7, t, n7, _, Am, cm, rfl, hL7, hst5, hf5, hn7, by omega, by omega, hq7, hp7, hbq, hgb, hB7⟩
          case measure => simp [intOf]; omega
        · obtain ⟨hgood, hl6⟩ := HRZ.out rfl
          have HG := Lib.hid hgood
          clear hgood
          go_wp2_with fail
          refine (done_ (fun q => g + 3 ≤ q ∧ q ≠ qm ∧ q ≠ b) qm (N - 9) cm nl g (b + 1) Am A un uc ul P _ hq7 hp7 (hact7.uss g (b + 1) hg0) (by omega) (by omega) HG.out hl6 (by omega) hp7.some_).mono ?_
          rintro e wd ⟨Ad, cd, rfl, hpd, hcd, hmd, hbd⟩
          have hqd := hq7.keep hbd
          have hLd := hL7.below hbd
          have hBd := hB7.trans (hbd.mono hB7.size)
          have hzd := hbd.size
          have m0 := hqd.cell (j := 0) (u := .slice Am (N - 9) cm) rfl
          have m1 := hqd.cell (j := 1) (u := .int .i64 (nl : Int)) rfl
          have mf0 := hqd.free 0
          have mf1 := hqd.free 1
          have hset := grown2 wd qm (.slice Ad (N - 9) cd) (.int .i64 ((nl : Int) + 1))
          have hqs := hqd.set2 (.slice Ad (N - 9) cd) (.int .i64 ((nl : Int) + 1))
          have hps := (hpd.mono (F' := fun q => g + 3 ≤ q ∧ q ≠ qm ∧ q ≠ b) (fun q hq hF => by have := hq7.lt; have := hL7.blt; have := hL7.lt; omega)).grown hset (fun q hq e => by injection e with e; exact hq.2.1 e)
          have hLs : Lk ((wd.setCell ⟨qm, 0, none⟩ (.slice Ad (N - 9) cd)).setCell ⟨qm, 1, none⟩ (.int .i64 ((nl : Int) + 1))) g b s7 (nl + 1) := ⟨hLd.disk.tn (Tn.ofGrown (lo := qm) (hi := qm + 1) hset (Nat.le_refl _) (Nat.lt_succ_self _)) (.inl (by omega)), hLd.log.grown hset (by intro e; injection e with e; exact hbq e), hLd.lt, hLd.least⟩
          have hBs := hBd.grown hset hBd.size (fun k e => by injection e with e; omega)
          have hzs : wd.heap.size = ((wd.setCell ⟨qm, 0, none⟩ (.slice Ad (N - 9) cd)).setCell ⟨qm, 1, none⟩ (.int .i64 ((nl : Int) + 1))).heap.size := by simp
          have hacts := hact7.below (by have := hB7.size; omega) ((hbd.mono hB7.size).grown hset hBd.size (fun k e => by injection e with e; omega))
          have hbxs := (hbx7.keep hbd).grown hset (by intro e; injection e with e; omega)
          have z0 := hbxs.cell (j := 0) (u := .slice A un uc) rfl
          have z1 := hbxs.cell (j := 1) (u := .int .i64 f) rfl
          have z2 := hbxs.cell (j := 2) (u := .slice Bk m d) rfl
          have z3 := hbxs.cell (j := 3) (u := .slice Ck ck cc) rfl
          have hbdl := (hbx7.keep hbd).cell (j := 1) (u := .int .i64 f) rfl
          go_wp2
          go_roundw
          case rel => exact ⟨j + 1, by omega, by go_num, b, s7, t', (nl + 1), _, Ad, cd, rfl, hLs, hst', ((hfz7.fuse (by omega)).trans hf5), hn7, by omega, by omega, hqs, hps, hbq, hgb, hBs⟩
          case measure => simp [intOf]; omega
        · omega
    · go_wp2
      go_ret
      exact ⟨rfl, hB⟩

set_option maxRecDepth 100000 in
theorem walWhole_lifted (os : Os) (started : os.Started) (H : Type) (enc : TypeId × Value → H) :
    ReturnsInHanded {} Try.checked os 4 .any (Rows.walWholeSpec.pre6 enc Try.prog Try.f4 Rows.walWholeRow.domain false) (Rows.walWholeSpec.post enc Try.prog Try.f4 false true false false) := by
  refine law_lifted (C := Try.checked) (tb := 4) own_ started (by kernel_rfl) Try.func4
    (ChangeSpec.witness6 (enc := enc) (C := Try.checked) false ⟨#[], #[.int .u8 0, .slice none 0 0], []⟩ 8 (by kernel_rfl) (by kernel_rfl) (by kernel_rfl) (by kernel_rfl))
    rfl rfl Try.underlying4 laidOut_ (by kernel_rfl) (fun ds h => by match ds, h with | [_, _], _ => rfl) ?_
  intro W base args ds p hval0 hA0 _ hsz0
  have hval : ∀ (j : Nat) t v, Try.f4.params[j]? = some t → args[j]? = some v → Value.okWide Try.prog W .any base t v := hval0
  have hA : DataW.TrodAll enc Try.prog W 0 (fun _ => true) true Try.f4.params.toList args.toList ds p := hA0
  have hsz : (DataW.weightsEach Try.prog Try.f4.params.toList ds).all (· ≤ reachBytes) = true := hsz0
  clear hval0 hA0 hsz0
  rw [Try.params4] at hA hval hsz
  obtain ⟨v0, v1, d0, d1, p0, p1, rfl, rfl, rfl, h0, h1⟩ := trodAll_two hA
  obtain ⟨k0, rfl, hz0⟩ := arg_nat _ Try.underlying5 (hval 0 _ v0 rfl rfl) h0 wf_u8
  obtain ⟨A1, n1, c1, xs1, rfl, r1, b1⟩ := arg_slice ops_acts Try.underlying22 (hval 1 _ v1 rfl rfl) h1 (weight_at hsz (j := 1) rfl rfl)
  exact walWhole_walk k0 A1 n1 c1 xs1 W hz0 r1

/-- WalWhole, for every input: the statement as it was given. -/
theorem walWhole_holds : Rows.WalWholeSaid :=
  OpenClaim.holds_of_wide 4 Try.f4 rfl rfl rfl rfl rfl rfl rfl ⟨rfl, rfl, rfl, rfl, rfl⟩ rfl rfl rfl rfl rfl (by kernel_rfl) Try.func4 (by kernel_rfl)
    (of_decide_eq_true (by kernel_rfl)) (by unfold Func.isWrapper; first | (rw [if_pos (by decide +kernel)]; kernel_rfl) | (rw [if_neg (by decide +kernel)]; exact ⟨rfl, rfl⟩))
    (fun os started H enc _ => walWhole_lifted os started H enc)
end Go.Proofs.Ytlpbdnncbinbmaa
