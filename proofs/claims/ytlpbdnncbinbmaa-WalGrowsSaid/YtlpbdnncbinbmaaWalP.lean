/- Proves WalGrows of layer 4 (the log), for every input, with no condition: the number of the last change never falls behind a loss of power, and each change that is done is one more. -/
import Derived.Test.YtlpbdnncbinbmaaWalS
namespace Go.Proofs.Ytlpbdnncbinbmaa
open Go.ChangeShapes Go.WideShapes Go.ChangeAt Go.RowKit Go.Maps

set_option maxRecDepth 100000 in
set_option maxHeartbeats 4000000 in
theorem walGrows_walk (z : Nat) (S : Option Addr) (n c : Nat) (acts : List ActV) (w : World) (hz : z < 256) (hS : (Shp.slice actShp 80).R w [.slice S n c] acts) :
    Calls Try.prog 8 #[.int .u8 (z : Int), .slice S n c] w fun e w' => e = .returned (.bool true) ∧ Below w.heap.size w w' := by
  have hn80 := acts_len hS
  go_enter Try.func8, Try.ntmps8
  go_wp2_with fail
  refine (size_ z w hz).mono ?_
  rintro e w' ⟨rfl, rfl⟩
  have hN1 : 10 ≤ z % 20 + 10 := by omega
  have hN2 : z % 20 + 10 ≤ 256 := by omega
  generalize z % 20 + 10 = N at *
  go_wp2_with fail
  refine (begin_ N w hN1 hN2).mono ?_
  rintro e w1 ⟨g, b1, s1, t1, rfl, hg0, hb1, hL1, hst1, ht1, hn1, hf1⟩
  go_wp2_with fail
  refine (alive_ w1).mono ?_
  rintro e w2 ⟨rfl, hb2⟩
  have hL2 := hL1.below hb2
  have hB2 := hb1.trans (hb2.mono hb1.size)
  clear hL1 hb1 hb2
  go_wp2_with fail
  go_loopw [28, 6] (fun i v wr => ∃ j : Nat, j ≤ n ∧ i = .int .i64 (j : Int) ∧ ∃ b s t nl P, v = .pointer (some ⟨b, 0, none⟩) ∧ Lk wr g b s nl ∧ St s t nl P ∧ s.fuse = -1 ∧ t ≤ 3 + 10 * j ∧ nl ≤ j ∧ w.heap.size ≤ b ∧ Below w.heap.size w wr) (fun i _ _ => n - (intOf i).toNat)
  case atStart => exact ⟨0, Nat.zero_le _, rfl, b1, s1, t1, 0, zeroP, rfl, hL2, hst1, hf1, by omega, Nat.le_refl _, by have := hL2.lt; omega, hB2⟩
  case round =>
    obtain ⟨j, hj, rfl, b, s, t, nl, P, rfl, hL, hst, hf, htj, hnl, hbw, hB⟩ := hrel
    clear hL2 hst1 ht1 hn1 hf1 hB2
    by_cases hlt : j < n
    · obtain ⟨sb, so, rfl, A, un, uc, ul, f, Bk, m, d, ks, Ck, ck, cc, ag, c0, c1, c2, c3, hact⟩ := acts_later hS hB hlt
      have hzw := hB.size
      have hgl := hL.disk.lt
      have hbl := hL.blt
      have hblt := hL.lt
      have hfr := hact.fIn
      have hL3 := hL.alloc (.cells #[.slice A un uc, .int .i64 f, .slice Bk m d, .slice Ck ck cc] 38)
      have hbx : Blk (wr.alloc (.cells #[.slice A un uc, .int .i64 f, .slice Bk m d, .slice Ck ck cc] 38)) wr.heap.size 38 #[.slice A un uc, .int .i64 f, .slice Bk m d, .slice Ck ck cc] := Blk.new wr _ _ rfl
      have hact3 := hact.below hzw ((Below.refl w.heap.size wr).alloc hzw (.cells #[.slice A un uc, .int .i64 f, .slice Bk m d, .slice Ck ck cc] 38))
      have hB3 := hB.alloc hzw (.cells #[.slice A un uc, .int .i64 f, .slice Bk m d, .slice Ck ck cc] 38)
      have hT3 : Tl g b wr (wr.alloc (.cells #[.slice A un uc, .int .i64 f, .slice Bk m d, .slice Ck ck cc] 38)) := Tl.alloc _ _
      have hz3 : wr.heap.size + 1 = (wr.alloc (.cells #[.slice A un uc, .int .i64 f, .slice Bk m d, .slice Ck ck cc] 38)).heap.size := by simp
      have hnum := number_log g b s nl _ hL3
      go_wp2_with fail
      refine hnum.mono ?_
      rintro e w' ⟨rfl, rfl⟩
      generalize wr.alloc (.cells #[.slice A un uc, .int .i64 f, .slice Bk m d, .slice Ck ck cc] 38) = w3 at *
      have x1 := hbx.cell (j := 1) (u := .int .i64 f) rfl
      have hg2 : w.heap.size ≤ g := hg0
      have hunl := hact3.unLe
      clear hL hB hT3 c0 c1 c2 c3 hact
      by_cases hf0 : 0 ≤ f
      · skip
        have hf0' : ¬ f < 0 := by omega
        go_wp2_with fail
        refine (arm_ g s _ f hL3.disk hfr).mono ?_
        rintro e w4 ⟨rfl, hd4, ht4⟩
        have hL4 : Lk w4 g b (s.arm f) nl := ⟨hd4, ht4.blk hL3.log (.inr (by omega)), hblt, hL3.least⟩
        have hbx4 := ht4.blk hbx (.inr (by omega))
        have hst4 := arm_st hst f
        have hY4 : Below w.heap.size w3 w4 := ht4.below (by omega) (by omega)
        have hB4 := hB3.trans hY4
        have hact4 := hact3.below (by omega) hY4
        have hz4 := hY4.size
        have hf4 : (s.arm f).fuse = f := rfl
        have hnn4 : (s.arm f).n = s.n := rfl
        clear hL3 hbx hB3 ht4 hd4 hst hf
        generalize s.arm f = s4 at *
        have x0 := hbx4.cell (j := 0) (u := .slice A un uc) rfl
        go_wp2_with fail
        refine (theirs_ g (b + 1) A un uc ul _ (hact4.uss g (b + 1) hg2) (by have := hL4.blt; omega) hunl).mono ?_
        rintro e w5 ⟨A5, c5, rfl, hU5, hb5⟩
        have hL5 := hL4.below hb5
        have hbx5 := hbx4.keep hb5
        have hB5 := hB4.trans (hb5.mono hB4.size)
        go_wp2_with fail
        refine (commit_any g b s4 t nl P A5 un c5 ul _ hL5 hst4 hU5 (by omega) (by unfold topN; omega) (by unfold topN; omega)).mono ?_
        rintro e w6 ⟨E, s6, n6, rfl, hfz6, hT6, hL6, hC⟩
        have hbx6 := hT6.blk hbx5 (.inr (by omega)) (by omega)
        have hB6 := hB5.trans (hT6.below hg2 hbw (by have := hB5.size; omega))
        have hz6 := hB6.size
        have y0 := hbx6.cell (j := 0) (u := .slice A un uc) rfl
        have y1 := hbx6.cell (j := 1) (u := .int .i64 f) rfl
        have y2 := hbx6.cell (j := 2) (u := .slice Bk m d) rfl
        have y3 := hbx6.cell (j := 3) (u := .slice Ck ck cc) rfl
        have hnum6 := number_log g b s6 n6 _ hL6
        have hY6 : Below w.heap.size w3 w6 := (hY4.trans (hb5.mono (by have := hY4.size; omega))).trans (hT6.below hg2 hbw (by have := hB5.size; omega))
        have hz5 := hb5.size
        clear hL5 hbx5 hB5 hb5 hU5 x0
        obtain ⟨hr, hE, rfl, rfl⟩ | ⟨hr, rfl, rfl, t', ht', hst'⟩ | ⟨hr, rfl, rfl, hfu, hrec⟩ := hC
        · rw [← hE] at hr
          have hr' : ¬ (E : Int) = 0 := by omega
          clear hE
          have hact6 := hact3.below (by omega) (show Below w.heap.size w3 w6 from hY6)
          go_wp2_with (first | (refine hnum6.mono ?_; rintro e w' ⟨rfl, rfl⟩) | fail)
          refine (restart_ (fun m _ => m = n6) g t s6 (.slice A un uc) f Bk m d ks Ck ck cc ag _ rfl hL6.disk hL6.least (hst4.rec_ (Nat.le_refl _) (by unfold topN; omega) rfl) (by unfold topN; omega) hact6.bls (by have := hact6.mLe; omega) (fun a ha h0 => .inl (by have := hact6.bB a ha h0; omega)) hact6.bs hact6.hC hact6.kc hact6.cLe (fun a ha h0 => .inl (by have := hact6.bC a ha h0; omega))).mono ?_
          rintro e w7 ⟨b7, s7, t7, n7, P7, rfl, hK7, ht7, hn7, hst7, hL7, hnn7, hf7, hT7, hb7⟩
          have hB7 := hB6.trans (hT7.below hg2 hz6)
          have hnum7 := number_log g b7 s7 n7 _ hL7
          have hk7 : n6 ≤ n7 ∧ n7 ≤ n6 + 1 := by omega
          have k1 : ((n6 : Nat) : Int) ≤ (n7 : Int) := by omega
          have k2 : (n7 : Int) ≤ ((n6 : Nat) : Int) + 1 := by omega
          have k3 : (n6 : Int) ≤ 140737488351232 := by omega
          clear hnum6 hK7
          go_wp2_with (first | (refine hnum7.mono ?_; rintro e w' ⟨rfl, rfl⟩) | fail)
          go_roundw
          case rel => exact ⟨j + 1, by omega, by go_num, b7, s7, t7, n7, P7, rfl, hL7, hst7, hf7, by omega, by omega, by omega, hB7⟩
          case measure => simp [intOf]; omega
        · have hn' : ((nl + 1 : Nat) : Int) = (nl : Int) + 1 := by omega
          have hact6 := hact3.below (by omega) (show Below w.heap.size w3 w6 from hY6)
          go_wp2_with (first | (refine hnum6.mono ?_; rintro e w' ⟨rfl, rfl⟩) | fail)
          refine (restart_ (fun m _ => m = nl + 1) g t' s6 (.slice A un uc) f Bk m d ks Ck ck cc ag _ rfl hL6.disk hL6.least (hst'.rec_ (Nat.le_refl _) (by unfold topN; omega) rfl) (by unfold topN; omega) hact6.bls (by have := hact6.mLe; omega) (fun a ha h0 => .inl (by have := hact6.bB a ha h0; omega)) hact6.bs hact6.hC hact6.kc hact6.cLe (fun a ha h0 => .inl (by have := hact6.bC a ha h0; omega))).mono ?_
          rintro e w7 ⟨b7, s7, t7, n7, P7, rfl, hK7, ht7, hn7, hst7, hL7, hnn7, hf7, hT7, hb7⟩
          have hB7 := hB6.trans (hT7.below hg2 hz6)
          have hnum7 := number_log g b7 s7 n7 _ hL7
          have hk7 : (nl + 1) ≤ n7 ∧ n7 ≤ nl + 1 := by omega
          have k1 : (((nl + 1) : Nat) : Int) ≤ (n7 : Int) := by omega
          have k2 : (n7 : Int) ≤ (((nl + 1) : Nat) : Int) + 1 := by omega
          have k3 : (nl : Int) ≤ 140737488351232 := by omega
          clear hnum6 hK7
          go_wp2_with (first | (refine hnum7.mono ?_; rintro e w' ⟨rfl, rfl⟩) | fail)
          go_roundw
          case rel => exact ⟨j + 1, by omega, by go_num, b7, s7, t7, n7, P7, rfl, hL7, hst7, hf7, by omega, by omega, by omega, hB7⟩
          case measure => simp [intOf]; omega
        · clear hfu
          have hact6 := hact3.below (by omega) (show Below w.heap.size w3 w6 from hY6)
          go_wp2_with (first | (refine hnum6.mono ?_; rintro e w' ⟨rfl, rfl⟩) | fail)
          refine (restart_ (Kc n6 P ul) g (t + 2) s6 (.slice A un uc) f Bk m d ks Ck ck cc ag _ rfl hL6.disk hL6.least (by have := hfz6.n; rw [this]; exact hrec) (by unfold topN; omega) hact6.bls (by have := hact6.mLe; omega) (fun a ha h0 => .inl (by have := hact6.bB a ha h0; omega)) hact6.bs hact6.hC hact6.kc hact6.cLe (fun a ha h0 => .inl (by have := hact6.bC a ha h0; omega))).mono ?_
          rintro e w7 ⟨b7, s7, t7, n7, P7, rfl, hK7, ht7, hn7, hst7, hL7, hnn7, hf7, hT7, hb7⟩
          have hB7 := hB6.trans (hT7.below hg2 hz6)
          have hnum7 := number_log g b7 s7 n7 _ hL7
          have hk7 : n6 ≤ n7 ∧ n7 ≤ n6 + 1 := by rcases hK7 with ⟨h, _⟩ | ⟨h, _⟩ <;> omega
          have k1 : ((n6 : Nat) : Int) ≤ (n7 : Int) := by omega
          have k2 : (n7 : Int) ≤ ((n6 : Nat) : Int) + 1 := by omega
          have k3 : (n6 : Int) ≤ 140737488351232 := by omega
          clear hnum6 hK7
          go_wp2_with (first | (refine hnum7.mono ?_; rintro e w' ⟨rfl, rfl⟩) | fail)
          go_roundw
          case rel => exact ⟨j + 1, by omega, by go_num, b7, s7, t7, n7, P7, rfl, hL7, hst7, hf7, by omega, by omega, by omega, hB7⟩
          case measure => simp [intOf]; omega
      · skip
        have hf0' : f < 0 := by omega
        have x0 := hbx.cell (j := 0) (u := .slice A un uc) rfl
        go_wp2_with fail
        refine (theirs_ g (b + 1) A un uc ul _ (hact3.uss g (b + 1) hg2) (by have := hL3.blt; omega) hunl).mono ?_
        rintro e w5 ⟨A5, c5, rfl, hU5, hb5⟩
        have hL5 := hL3.below hb5
        have hbx5 := hbx.keep hb5
        have hB5 := hB3.trans (hb5.mono hB3.size)
        go_wp2_with fail
        refine (commit_any g b s t nl P A5 un c5 ul _ hL5 hst hU5 (by omega) (by unfold topN; omega) (by unfold topN; omega)).mono ?_
        rintro e w6 ⟨E, s6, n6, rfl, hfz6, hT6, hL6, hC⟩
        have hbx6 := hT6.blk hbx5 (.inr (by omega)) (by omega)
        have hB6 := hB5.trans (hT6.below hg2 hbw (by have := hB5.size; omega))
        have hz6 := hB6.size
        have y0 := hbx6.cell (j := 0) (u := .slice A un uc) rfl
        have y1 := hbx6.cell (j := 1) (u := .int .i64 f) rfl
        have y2 := hbx6.cell (j := 2) (u := .slice Bk m d) rfl
        have y3 := hbx6.cell (j := 3) (u := .slice Ck ck cc) rfl
        have hnum6 := number_log g b s6 n6 _ hL6
        clear hL5 hbx5 hB5 hb5 hU5 x0
        obtain ⟨hr, hE, rfl, rfl⟩ | ⟨hr, rfl, rfl, t', ht', hst'⟩ | ⟨hr, rfl, rfl, hfu, hrec⟩ := hC
        · rw [← hE] at hr
          have hr' : ¬ (E : Int) = 0 := by omega
          clear hE
          go_wp2_with (first | (refine hnum6.mono ?_; rintro e w' ⟨rfl, rfl⟩) | fail)
          go_roundw
          case rel => exact ⟨j + 1, by omega, by go_num, b, s6, t, n6, P, rfl, hL6, hst, hf, by omega, by omega, hbw, hB6⟩
          case measure => simp [intOf]; omega
        · have hn' : ((nl + 1 : Nat) : Int) = (nl : Int) + 1 := by omega
          go_wp2_with (first | (refine hnum6.mono ?_; rintro e w' ⟨rfl, rfl⟩) | fail)
          go_roundw
          case rel => exact ⟨j + 1, by omega, by go_num, b, s6, t', nl + 1, _, rfl, hL6, hst', (hfz6.fuse (by omega)).trans hf, by omega, by omega, hbw, hB6⟩
          case measure => simp [intOf]; omega
        · omega
    · go_wp2
      go_ret
      exact ⟨rfl, hB⟩

set_option maxRecDepth 100000 in
theorem walGrows_lifted (os : Os) (started : os.Started) (H : Type) (enc : TypeId × Value → H) :
    ReturnsInHanded {} Try.checked os 8 .any (Rows.walGrowsSpec.pre6 enc Try.prog Try.f8 Rows.walGrowsRow.domain false) (Rows.walGrowsSpec.post enc Try.prog Try.f8 false true false false) := by
  refine law_lifted (C := Try.checked) (tb := 4) own_ started (by kernel_rfl) Try.func8
    (ChangeSpec.witness6 (enc := enc) (C := Try.checked) false ⟨#[], #[.int .u8 0, .slice none 0 0], []⟩ 8 (by kernel_rfl) (by kernel_rfl) (by kernel_rfl) (by kernel_rfl))
    rfl rfl Try.underlying4 laidOut_ (by kernel_rfl) (fun ds h => by match ds, h with | [_, _], _ => rfl) ?_
  intro W base args ds p hval0 hA0 _ hsz0
  have hval : ∀ (j : Nat) t v, Try.f8.params[j]? = some t → args[j]? = some v → Value.okWide Try.prog W .any base t v := hval0
  have hA : DataW.TrodAll enc Try.prog W 0 (fun _ => true) true Try.f8.params.toList args.toList ds p := hA0
  have hsz : (DataW.weightsEach Try.prog Try.f8.params.toList ds).all (· ≤ reachBytes) = true := hsz0
  clear hval0 hA0 hsz0
  rw [Try.params8] at hA hval hsz
  obtain ⟨v0, v1, d0, d1, p0, p1, rfl, rfl, rfl, h0, h1⟩ := trodAll_two hA
  obtain ⟨k0, rfl, hz0⟩ := arg_nat _ Try.underlying5 (hval 0 _ v0 rfl rfl) h0 wf_u8
  obtain ⟨A1, n1, c1, xs1, rfl, r1, b1⟩ := arg_slice ops_acts Try.underlying22 (hval 1 _ v1 rfl rfl) h1 (weight_at hsz (j := 1) rfl rfl)
  exact walGrows_walk k0 A1 n1 c1 xs1 W hz0 r1

/-- WalGrows, for every input: the statement as it was given. -/
theorem walGrows_holds : Rows.WalGrowsSaid :=
  OpenClaim.holds_of_wide 8 Try.f8 rfl rfl rfl rfl rfl rfl rfl ⟨rfl, rfl, rfl, rfl, rfl⟩ rfl rfl rfl rfl rfl (by kernel_rfl) Try.func8 (by kernel_rfl)
    (of_decide_eq_true (by kernel_rfl)) (by unfold Func.isWrapper; first | (rw [if_pos (by decide +kernel)]; kernel_rfl) | (rw [if_neg (by decide +kernel)]; exact ⟨rfl, rfl⟩))
    (fun os started H enc _ => walGrows_lifted os started H enc)
end Go.Proofs.Ytlpbdnncbinbmaa
