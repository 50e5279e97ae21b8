/- Proves WalPlays of layer 4 (the log), for every input, with no condition: while the power is on, a log does all changes that may be, and has behind each what the document says; others are refused. -/
import Derived.Test.YtlpbdnncbinbmaaWalX
import Derived.Test.YtlpbdnncbinbmaaWalY
import Derived.Test.YtlpbdnncbinbmaaWalS
namespace Go.Proofs.Ytlpbdnncbinbmaa
open Go.ChangeShapes Go.WideShapes Go.ChangeAt Go.RowKit Go.Maps

theorem Pls.some_ {w : World} {F : Nat → Prop} {A : Option Addr} {n : Nat} {l : List (List UInt8)} (h : Pls w F A n l) : A = none → n = 0 := fun e => by
  by_cases h0 : n = 0
  · exact h0
  · obtain ⟨b, o, _, _, _, e2, _⟩ := h.at_ (k := 0) (by omega)
    rw [e] at e2; cases e2
set_option maxRecDepth 100000 in
set_option maxHeartbeats 4000000 in
theorem walPlays_walk (z : Nat) (S : Option Addr) (n c : Nat) (acts : List ActV) (w : World) (hz : z < 256) (hS : (Shp.slice actShp 80).R w [.slice S n c] acts) :
    Calls Try.prog 3 #[.int .u8 (z : Int), .slice S n c] w fun e w' => e = .returned (.bool true) ∧ Below w.heap.size w w' := by
  have hn80 := acts_len hS
  go_enter Try.func3, Try.ntmps3
  have hN1 : 10 ≤ z % 20 + 10 := by omega
  have hN2 : z % 20 + 10 ≤ 256 := by omega
  have hsz := fun w => size_ z w hz
  generalize z % 20 + 10 = N at *
  go_wp2_with fail
  refine (hsz w).mono ?_
  rintro e w' ⟨rfl, rfl⟩
  go_wp2_with fail
  refine (begin_ N w hN1 hN2).mono ?_
  rintro e w1 ⟨g, b, s1, t1, rfl, hg0, hb1, hL1, hst1, ht1, hn1, hf1⟩
  go_wp2_with fail
  refine (hsz w1).mono ?_
  rintro e w' ⟨rfl, rfl⟩
  have hz1 := hb1.size
  go_wp2_with fail
  refine (rnew_ N w1 hN1 hN2).mono ?_
  rintro e w2 ⟨A2, c2, rfl, hp2, hc2, hm2, hb2⟩
  have hz2 := hb2.size
  have hbl1 := hL1.blt
  have hq3 : Blk (w2.alloc (mdO (.slice A2 (N - 9) c2) 0)) w2.heap.size 30 (mdC (.slice A2 (N - 9) c2) 0) := Blk.new w2 _ _ rfl
  have hp3 := (hp2.mono (F' := fun q => b < q ∧ q ≠ w2.heap.size) (fun q hq hF => by omega)).below ((Below.refl w2.heap.size w2).alloc (Nat.le_refl _) (mdO (.slice A2 (N - 9) c2) 0))
  have hL3 := (hL1.below hb2).alloc (mdO (.slice A2 (N - 9) c2) 0)
  have hB3 : Below w.heap.size w (w2.alloc (mdO (.slice A2 (N - 9) c2) 0)) := (hb1.trans (hb2.mono hz1)).alloc (by omega) _
  clear hp2 hL1 hb1 hb2
  go_wp2_with fail
  generalize (w2.alloc (mdO (.slice A2 (N - 9) c2) 0)) = w3 at *
  refine (alive_ w3).mono ?_
  rintro e w4 ⟨rfl, hb4⟩
  have hL4 := hL3.below hb4
  have hq4 := hq3.keep hb4
  have hp4 := hp3.below hb4
  have hB4 := hB3.trans (hb4.mono hB3.size)
  have hblm : b < w2.heap.size := by omega
  clear hL3 hq3 hp3 hb4
  go_wp2_with fail
  obtain ⟨qm, hqm⟩ : ∃ qm, qm = w2.heap.size := ⟨_, rfl⟩
  rw [← hqm] at hq4 hp4 hblm ⊢
  clear hqm
  go_loopw [34] (fun i wr => ∃ j : Nat, j ≤ n ∧ i = .int .i64 (j : Int) ∧ ∃ s t nl P A c, Lk wr g b s nl ∧ St s t nl P ∧ s.fuse = -1 ∧ s.n = N ∧ t ≤ 3 + 10 * j ∧ nl ≤ j ∧ Blk wr qm 30 (mdC (.slice A (N - 9) c) nl) ∧ Pls wr (fun q => b < q ∧ q ≠ qm) A (N - 9) (rowsOf P (N - 9)) ∧ Below w.heap.size w wr) (fun i _ => n - (intOf i).toNat)
  case atStart => exact ⟨0, Nat.zero_le _, rfl, s1, t1, 0, zeroP, A2, c2, hL4, hst1, hf1, hn1, by omega, Nat.le_refl _, hq4, hp4, hB4⟩
  case round =>
    obtain ⟨j, hj, rfl, s, t, nl, P, Am, cm, hL, hst, hf, hsn, htj, hnl, hq, hp, hB⟩ := hrel
    clear hL4 hst1 ht1 hn1 hf1 hB4 hq4 hp4
    by_cases hlt : j < n
    · obtain ⟨sb, so, rfl, A, un, uc, ul, f, Bk, m, d, ks, Ck, ck, cc, ag, c0, c1, c2', c3, hact⟩ := acts_later hS hB hlt
      have hzw := hB.size
      have hgl := hL.disk.lt
      have hbl := hL.blt
      have hblt := hL.lt
      have hL3 := hL.alloc (.cells #[.slice A un uc, .int .i64 f, .slice Bk m d, .slice Ck ck cc] 38)
      have hbx : Blk (wr.alloc (.cells #[.slice A un uc, .int .i64 f, .slice Bk m d, .slice Ck ck cc] 38)) wr.heap.size 38 #[.slice A un uc, .int .i64 f, .slice Bk m d, .slice Ck ck cc] := Blk.new wr _ _ rfl
      have hact3 := hact.below hzw ((Below.refl w.heap.size wr).alloc hzw (.cells #[.slice A un uc, .int .i64 f, .slice Bk m d, .slice Ck ck cc] 38))
      have hB3 := hB.alloc hzw (.cells #[.slice A un uc, .int .i64 f, .slice Bk m d, .slice Ck ck cc] 38)
      have hq3 := hq.alloc (.cells #[.slice A un uc, .int .i64 f, .slice Bk m d, .slice Ck ck cc] 38)
      have hp3 := hp.below ((Below.refl wr.heap.size wr).alloc (Nat.le_refl _) (.cells #[.slice A un uc, .int .i64 f, .slice Bk m d, .slice Ck ck cc] 38))
      have hz3 : wr.heap.size + 1 = (wr.alloc (.cells #[.slice A un uc, .int .i64 f, .slice Bk m d, .slice Ck ck cc] 38)).heap.size := by simp
      have hunl := hact3.unLe
      have hqml := hq.lt
      clear hL hB hq hp hact
      go_wp2_with fail
      generalize wr.alloc (.cells #[.slice A un uc, .int .i64 f, .slice Bk m d, .slice Ck ck cc] 38) = w3 at *
      refine (right_ qm (N - 9) cm nl g (b + 1) Am A un uc ul w3 hq3 (hact3.uss g (b + 1) hg0) (by omega) (by omega)).mono ?_
      rintro e w5 ⟨rfl, hb5⟩
      have hL5 := hL3.below hb5
      have hbx5 := hbx.keep hb5
      have hq5 := hq3.keep hb5
      have hp5 := hp3.below hb5
      have hB5 := hB3.trans (hb5.mono hB3.size)
      have hz5 := hb5.size
      have hact5 := hact3.below (by omega) (hb5.mono (by omega))
      clear hL3 hbx hq3 hp3 hact3
      have x0 := hbx5.cell (j := 0) (u := .slice A un uc) rfl
      go_wp2_with fail
      refine (theirs_ g (b + 1) A un uc ul w5 (hact5.uss g (b + 1) hg0) (by have := hL5.blt; omega) hunl).mono ?_
      rintro e w6 ⟨A6, c6, rfl, hU6, hb6⟩
      have hL6 := hL5.below hb6
      have hbx6 := hbx5.keep hb6
      have hq6 := hq5.keep hb6
      have hp6 := hp5.below hb6
      have hB6 := hB5.trans (hb6.mono hB5.size)
      have hz6 := hb6.size
      clear hL5 hbx5 hq5 hp5 x0
      go_wp2_with fail
      refine (commit_any g b s t nl P A6 un c6 ul w6 hL6 hst hU6 (by omega) (by unfold topN; omega) (by unfold topN; omega)).mono ?_
      rintro e w7 ⟨E, s7, n7, rfl, hfz7, hT7, hL7, hC⟩
      have hbx7 := hT7.blk hbx6 (.inr (by omega)) (by omega)
      have hq7 := hT7.blk hq6 (.inr (by omega)) (by omega)
      have hp7 := hp6.tl hT7 (fun q hq => by omega)
      have hB7 := hB6.trans (hT7.below hg0 (by omega) (by have := hB6.size; omega))
      have hz7 := hT7.size
      have hf7 := (hfz7.fuse (by omega)).trans hf
      have hn7 := hfz7.n.trans hsn
      have hact7 := hact5.below (by omega) ((hb6.mono (by omega)).trans (hT7.below hg0 (by omega) (by omega)))
      have hN9 : s.n - 9 = N - 9 := by rw [hsn]
      unfold Comm at hC
      rw [hN9] at hC
      clear hL6 hbx6 hq6 hp6 hU6
      have HRZ := Lib.hid (fun h => rightE_zero (m := N - 9) (l := ul) h)
      obtain ⟨R, hR⟩ : ∃ R, rightE (N - 9) ul = R := ⟨_, rfl⟩
      rw [hR] at hC HRZ ⊢
      clear hR
      have y0 := hbx7.cell (j := 0) (u := .slice A un uc) rfl
      have hbxl := hbx7.lt
      obtain ⟨hr, rfl, rfl, rfl⟩ | ⟨rfl, rfl, rfl, t', ht', hst'⟩ | ⟨_, _, _, hfu, _⟩ := hC
      · have hr' : ¬ (E : Int) = 0 := by omega
        have q0 := hq7.cell (j := 0) (u := .slice Am (N - 9) cm) rfl
        have q1 := hq7.cell (j := 1) (u := .int .i64 (n7 : Int)) rfl
        have htold := told_ g b s7 t n7 P w7.drew (hL7.below ((Below.refl _ _).drew)) hst (by unfold topN; omega) (by unfold topN; omega)
        rw [hn7] at htold
        have hql7 := hq7.lt
        go_wp2_with fail
        go_region_held3 (fun w' => w'.cell? ⟨qm, 0, none⟩ = some (.slice Am (N - 9) cm) ∧ w'.cell? ⟨qm, 1, none⟩ = some (.int .i64 (n7 : Int)))
          (first | go_keep | exact ⟨q0, q1⟩ | exact ⟨ht9.cell q0 (.inr (by show b + 1 ≤ qm; omega)), ht9.cell q1 (.inr (by show b + 1 ≤ qm; omega))⟩ | exact ⟨(hb10.cell (show qm < w9.heap.size from hl9)).trans (ht9.cell q0 (.inr (by show b + 1 ≤ qm; omega))), (hb10.cell (show qm < w9.heap.size from hl9)).trans (ht9.cell q1 (.inr (by show b + 1 ≤ qm; omega)))⟩)
          (first
            | (go_at_call 19; refine htold.mono ?_; rintro e w9 ⟨A9, c9, rfl, hp9, hc9, hm9, hL9, ht9⟩
               have hl9 : qm < w9.heap.size := by have := ht9.size; simp at this; omega)
            | (go_at_call 18
               refine (same_ _ _ A9 Am (N - 9) c9 cm n7 _ w9 hp9 ((hp7.below ((Below.refl _ _).drew)).tl (Tl.log (g := g) ht9) (fun q hq => by omega)) (by omega)).mono ?_
               rintro e w10 ⟨rfl, hb10⟩))
        have hq10 := (ht9.blk (show Blk w7.drew qm _ _ from hq7) (.inr (by omega))).keep hb10
        have hp10 := ((hp7.below ((Below.refl _ _).drew)).tl (Tl.log (g := g) ht9) (fun q hq => by omega)).below hb10
        have hL10 := hL9.below hb10
        have hB9 : Below w.heap.size w w9 := hB7.trans (ht9.drew.below (by omega) (by have := hB7.size; omega))
        have hB10 := hB9.trans (hb10.mono hB9.size)
        clear q0 q1 htold hp9 hL9 ht9 hb10
        go_wp2
        go_roundw
        case rel => exact ⟨j + 1, by omega, by go_num, s7, t, n7, _, Am, cm, hL10, hst, hf7, hn7, by omega, by omega, hq10, hp10, hB10⟩
        case measure => simp [intOf]; omega
      · obtain ⟨hgood, hl6⟩ := HRZ.out rfl
        have HG := Lib.hid hgood
        clear hgood
        go_wp2_with fail
        refine (done_ (fun q => b < q ∧ q ≠ qm) qm (N - 9) cm nl g (b + 1) Am A un uc ul P w7 hq7 hp7 (hact7.uss g (b + 1) hg0) (by omega) (by omega) HG.out hl6 (by omega) hp7.some_).mono ?_
        rintro e w8 ⟨A8, c8, rfl, hp8, hc8, hm8, hb8⟩
        have hq8 := hq7.keep hb8
        have hL8 := hL7.below hb8
        have hB8 := hB7.trans (hb8.mono hB7.size)
        have hz8 := hb8.size
        have m0 := hq8.cell (j := 0) (u := .slice Am (N - 9) cm) rfl
        have m1 := hq8.cell (j := 1) (u := .int .i64 (nl : Int)) rfl
        have mf0 := hq8.free 0
        have mf1 := hq8.free 1
        have hset := grown2 w8 qm (.slice A8 (N - 9) c8) (.int .i64 ((nl : Int) + 1))
        have hqs := hq8.set2 (.slice A8 (N - 9) c8) (.int .i64 ((nl : Int) + 1))
        have hps := (hp8.mono (F' := fun q => b < q ∧ q ≠ qm) (fun q hq hF => by have := hq7.lt; omega)).grown hset (fun q hq e => by injection e with e; omega)
        have hLs := hL8.tn (Tn.ofGrown (lo := qm) (hi := qm + 1) hset (Nat.le_refl _) (Nat.lt_succ_self _)) (.inr (by omega))
        have hBs := hB8.grown hset hB8.size (fun k e => by injection e with e; omega)
        have hzs : w8.heap.size = ((w8.setCell ⟨qm, 0, none⟩ (.slice A8 (N - 9) c8)).setCell ⟨qm, 1, none⟩ (.int .i64 ((nl : Int) + 1))).heap.size := by simp
        clear hp8 hL8 hB8 hq7 hp7 hL7 hset hb8
        go_wp2_with fail
        generalize ((w8.setCell ⟨qm, 0, none⟩ (.slice A8 (N - 9) c8)).setCell ⟨qm, 1, none⟩ (.int .i64 ((nl : Int) + 1))) = wz at *
        have q0 := hqs.cell (j := 0) (u := .slice A8 (N - 9) c8) rfl
        have q1 := hqs.cell (j := 1) (u := .int .i64 ((nl : Int) + 1)) rfl
        have htold := told_ g b s7 t' (nl + 1) (doneP ul P) wz.drew (hLs.below ((Below.refl _ _).drew)) hst' (by unfold topN; omega) (by unfold topN; omega)
        rw [hn7] at htold
        have hql7 := hqs.lt
        go_region_held3 (fun w' => w'.cell? ⟨qm, 0, none⟩ = some (.slice A8 (N - 9) c8) ∧ w'.cell? ⟨qm, 1, none⟩ = some (.int .i64 ((nl : Int) + 1)))
          (first | go_keep | exact ⟨q0, q1⟩ | exact ⟨ht9.cell q0 (.inr (by show b + 1 ≤ qm; omega)), ht9.cell q1 (.inr (by show b + 1 ≤ qm; omega))⟩ | exact ⟨(hb10.cell (show qm < w9.heap.size from hl9)).trans (ht9.cell q0 (.inr (by show b + 1 ≤ qm; omega))), (hb10.cell (show qm < w9.heap.size from hl9)).trans (ht9.cell q1 (.inr (by show b + 1 ≤ qm; omega)))⟩)
          (first
            | (go_at_call 19; refine htold.mono ?_; rintro e w9 ⟨A9, c9, rfl, hp9, hc9, hm9, hL9, ht9⟩
               have hl9 : qm < w9.heap.size := by have := ht9.size; simp at this; omega)
            | (go_at_call 18
               refine (same_ _ _ A9 A8 (N - 9) c9 c8 (nl + 1) _ w9 hp9 ((hps.below ((Below.refl _ _).drew)).tl (Tl.log (g := g) ht9) (fun q hq => by omega)) (by omega)).mono ?_
               rintro e w10 ⟨rfl, hb10⟩))
        have hq10 := (ht9.blk (show Blk wz.drew qm _ _ from hqs) (.inr (by omega))).keep hb10
        have hp10 := ((hps.below ((Below.refl _ _).drew)).tl (Tl.log (g := g) ht9) (fun q hq => by omega)).below hb10
        have hL10 := hL9.below hb10
        have hB9 : Below w.heap.size w w9 := hBs.trans (ht9.drew.below (by omega) (by have := hBs.size; omega))
        have hB10 := hB9.trans (hb10.mono hB9.size)
        clear q0 q1 htold hp9 hL9 ht9 hb10
        go_wp2
        go_roundw
        case rel => exact ⟨j + 1, by omega, by go_num, s7, t', (nl + 1), _, A8, c8, hL10, hst', hf7, hn7, by omega, by omega, hq10, hp10, hB10⟩
        case measure => simp [intOf]; omega
      · omega
    · go_wp2
      go_ret
      exact ⟨rfl, hB⟩

set_option maxRecDepth 100000 in
theorem walPlays_lifted (os : Os) (started : os.Started) (H : Type) (enc : TypeId × Value → H) :
    ReturnsInHanded {} Try.checked os 3 .any (Rows.walPlaysSpec.pre6 enc Try.prog Try.f3 Rows.walPlaysRow.domain false) (Rows.walPlaysSpec.post enc Try.prog Try.f3 false true false false) := by
  refine law_lifted (C := Try.checked) (tb := 4) own_ started (by kernel_rfl) Try.func3
    (ChangeSpec.witness6 (enc := enc) (C := Try.checked) false ⟨#[], #[.int .u8 0, .slice none 0 0], []⟩ 8 (by kernel_rfl) (by kernel_rfl) (by kernel_rfl) (by kernel_rfl))
    rfl rfl Try.underlying4 laidOut_ (by kernel_rfl) (fun ds h => by match ds, h with | [_, _], _ => rfl) ?_
  intro W base args ds p hval0 hA0 _ hsz0
  have hval : ∀ (j : Nat) t v, Try.f3.params[j]? = some t → args[j]? = some v → Value.okWide Try.prog W .any base t v := hval0
  have hA : DataW.TrodAll enc Try.prog W 0 (fun _ => true) true Try.f3.params.toList args.toList ds p := hA0
  have hsz : (DataW.weightsEach Try.prog Try.f3.params.toList ds).all (· ≤ reachBytes) = true := hsz0
  clear hval0 hA0 hsz0
  rw [Try.params3] at hA hval hsz
  obtain ⟨v0, v1, d0, d1, p0, p1, rfl, rfl, rfl, h0, h1⟩ := trodAll_two hA
  obtain ⟨k0, rfl, hz0⟩ := arg_nat _ Try.underlying5 (hval 0 _ v0 rfl rfl) h0 wf_u8
  obtain ⟨A1, n1, c1, xs1, rfl, r1, b1⟩ := arg_slice ops_acts Try.underlying22 (hval 1 _ v1 rfl rfl) h1 (weight_at hsz (j := 1) rfl rfl)
  exact walPlays_walk k0 A1 n1 c1 xs1 W hz0 r1

/-- WalPlays, for every input: the statement as it was given. -/
theorem walPlays_holds : Rows.WalPlaysSaid :=
  OpenClaim.holds_of_wide 3 Try.f3 rfl rfl rfl rfl rfl rfl rfl ⟨rfl, rfl, rfl, rfl, rfl⟩ rfl rfl rfl rfl rfl (by kernel_rfl) Try.func3 (by kernel_rfl)
    (of_decide_eq_true (by kernel_rfl)) (by unfold Func.isWrapper; first | (rw [if_pos (by decide +kernel)]; kernel_rfl) | (rw [if_neg (by decide +kernel)]; exact ⟨rfl, rfl⟩))
    (fun os started H enc _ => walPlays_lifted os started H enc)
end Go.Proofs.Ytlpbdnncbinbmaa
