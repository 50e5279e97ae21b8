/- Proves WalOpens of layer 4 (the log), for every input, with no condition: Open of a log turns no place, however often. -/
import Derived.Test.YtlpbdnncbinbmaaWalU
import Derived.Test.YtlpbdnncbinbmaaWalS
namespace Go.Proofs.Ytlpbdnncbinbmaa
open Go.ChangeShapes Go.WideShapes Go.ChangeAt Go.RowKit Go.Maps

set_option maxRecDepth 100000 in
set_option maxHeartbeats 4000000 in
theorem walOpens_walk (z : Nat) (S : Option Addr) (n c : Nat) (acts : List ActV) (y : Nat) (w : World) (hz : z < 256) (hS : (Shp.slice actShp 80).R w [.slice S n c] acts) (hy : y < 256) :
    Calls Try.prog 5 #[.int .u8 (z : Int), .slice S n c, .int .u8 (y : Int)] w fun e w' => e = .returned (.bool true) ∧ Below w.heap.size w w' := by
  have hn80 := acts_len hS
  go_enter Try.func5, Try.ntmps5
  go_wp2_with fail
  refine (size_ z w hz).mono ?_
  rintro e w' ⟨rfl, rfl⟩
  have hN1 : 10 ≤ z % 20 + 10 := by omega
  have hN2 : z % 20 + 10 ≤ 256 := by omega
  generalize z % 20 + 10 = N at *
  go_wp2_with fail
  refine (begin_ N w hN1 hN2).mono ?_
  rintro e w1 ⟨g, b, s1, t1, rfl, hg0, hb1, hL1, hst1, ht1, hn1, hf1⟩
  go_wp2_with fail
  refine (alive_ w1).mono ?_
  rintro e w2 ⟨rfl, hb2⟩
  have hL2 := hL1.below hb2
  have hB2 := hb1.trans (hb2.mono hb1.size)
  clear hL1 hb1 hb2
  go_wp2_with fail
  go_loopw [30] (fun i wr => ∃ j : Nat, j ≤ n ∧ i = .int .i64 (j : Int) ∧ ∃ s t nl P, Lk wr g b s nl ∧ St s t nl P ∧ s.fuse = -1 ∧ s.n = N ∧ t ≤ 3 + 10 * j ∧ nl ≤ j ∧ Below w.heap.size w wr) (fun i _ => n - (intOf i).toNat)
  case atStart => exact ⟨0, Nat.zero_le _, rfl, s1, t1, 0, zeroP, hL2, hst1, hf1, hn1, by omega, Nat.le_refl _, hB2⟩
  case round =>
    obtain ⟨j, hj, rfl, s, t, nl, P, hL, hst, hf, hsn, htj, hnl, hB⟩ := hrel
    clear hL2 hst1 ht1 hn1 hf1 hB2
    have hzw := hB.size
    have hgl := hL.disk.lt
    have hbl := hL.blt
    have hblt := hL.lt
    by_cases hlt : j < n
    · obtain ⟨sb, so, rfl, A, un, uc, ul, f, Bk, m, d, ks, Ck, ck, cc, ag, c0, c1, c2, c3, hact⟩ := acts_later hS hB hlt
      have hL3 := hL.alloc (.cells #[.slice A un uc, .int .i64 f, .slice Bk m d, .slice Ck ck cc] 38)
      have hact3 := hact.below hzw ((Below.refl w.heap.size wr).alloc hzw (.cells #[.slice A un uc, .int .i64 f, .slice Bk m d, .slice Ck ck cc] 38))
      have hB3 := hB.alloc hzw (.cells #[.slice A un uc, .int .i64 f, .slice Bk m d, .slice Ck ck cc] 38)
      have hunl := hact3.unLe
      go_wp2_with fail
      generalize wr.alloc (.cells #[.slice A un uc, .int .i64 f, .slice Bk m d, .slice Ck ck cc] 38) = w3 at *
      refine (theirs_ g (b + 1) A un uc ul _ (hact3.uss g (b + 1) hg0) (by have := hL3.blt; omega) hunl).mono ?_
      rintro e w5 ⟨A5, c5, rfl, hU5, hb5⟩
      have hL5 := hL3.below hb5
      have hB5 := hB3.trans (hb5.mono hB3.size)
      go_wp2_with fail
      refine (commit_any g b s t nl P A5 un c5 ul _ hL5 hst hU5 (by omega) (by unfold topN; omega) (by unfold topN; omega)).mono ?_
      rintro e w6 ⟨E, s6, n6, rfl, hfz6, hT6, hL6, hC⟩
      have hB6 := hB5.trans (hT6.below hg0 (by omega) (by have := hB5.size; omega))
      have hf6 := (hfz6.fuse (by omega)).trans hf
      have hn6 := hfz6.n.trans hsn
      have hst6 : ∃ t6 P6, t6 ≤ t + 2 ∧ n6 ≤ nl + 1 ∧ St s6 t6 n6 P6 := by
        rcases hC with ⟨_, _, rfl, rfl⟩ | ⟨_, _, rfl, t', ht', hst'⟩ | ⟨_, _, _, hfu, _⟩
        · exact ⟨t, P, by omega, by omega, hst⟩
        · exact ⟨t', _, ht', Nat.le_refl _, hst'⟩
        · omega
      obtain ⟨t6, P6, ht6, hn6', hst6⟩ := hst6
      clear hC hL5 hB5 hb5 hU5 hL3 hact3 hB3 hL hst hact c0 c1 c2 c3
      go_wp2
      go_roundw
      case rel => exact ⟨j + 1, by omega, by go_num, s6, t6, n6, P6, hL6, hst6, hf6, hn6, by omega, by omega, hB6⟩
      case measure => simp [intOf]; omega
    · have htold := told_ g b s t nl P wr hL hst (by unfold topN; omega) (by unfold topN; omega)
      rw [hsn] at htold
      obtain ⟨wo, rfl⟩ : ∃ wo : World, wo = wr := ⟨_, rfl⟩
      have hy5 : (y : Int).tmod 5 = ((y % 5 : Nat) : Int) := by rw [Int.tmod_eq_emod_of_nonneg (by omega)]; omega
      have hy6 : ((y % 5 : Nat) : Int) < 5 := by omega
      have hy7 : ((y % 5 : Nat) : Int) = (y : Int) % 5 := by omega
      go_wp2_with fail
      refine htold.mono ?_
      rintro e w3 ⟨A3, c3, rfl, hp3, hc3, hm3, hL3, ht3⟩
      have hB3 := hB.trans (ht3.below (by omega) hzw)
      have hz3 := ht3.size
      have hB4 : Below w.heap.size w (w3.alloc (mdO (.slice A3 (N - 9) c3) nl)) := hB3.alloc hB3.size _
      have hq4 : Blk (w3.alloc (mdO (.slice A3 (N - 9) c3) nl)) w3.heap.size 30 (mdC (.slice A3 (N - 9) c3) nl) := Blk.new w3 _ _ rfl
      have hp4 := hp3.below ((Below.refl w3.heap.size w3).alloc (Nat.le_refl _) (mdO (.slice A3 (N - 9) c3) nl))
      have hd4 := hL3.disk.alloc (mdO (.slice A3 (N - 9) c3) nl)
      clear htold hL3 hp3 ht3 hL
      go_wp2_with fail
      generalize w3.alloc (mdO (.slice A3 (N - 9) c3) nl) = w4 at *
      have hj62 : t + 10 ≤ topN := by unfold topN; omega
      have hnl62 : nl ≤ topN := by unfold topN; omega
      go_loopw [45] (fun i wr => ∃ k : Nat, k ≤ y % 5 ∧ i = .int .i64 (k : Int) ∧ ∃ s' t', Dk wr g s' ∧ St s' t' nl P ∧ s'.fuse = -1 ∧ s'.n = N ∧ t' ≤ t + k ∧ Tn g (g + 3) w4 wr) (fun i _ => 10 - (intOf i).toNat)
      case atStart => exact ⟨0, Nat.zero_le _, rfl, s, t, hd4, hst, hf, hsn, by omega, Tn.refl _ _ _⟩
      case round =>
        obtain ⟨k, hk, rfl, s5, t5, hd5, hst5, hf5, hn5, ht5, hT5⟩ := hrel
        clear hd4 hst hf hsn
        have hq5 := hT5.blk hq4 (.inr (by omega))
        have hp5 := (hp4.mono (F' := fun q => wo.heap.size ≤ q ∧ q < w4.heap.size) (fun q hq hF => ⟨hF, hq⟩)).tl (Tl.disk (b := w4.heap.size + 1) hT5) (fun q hq => by omega)
        have hz5 := hT5.size
        have hql := hq4.lt
        have hB5 := hB4.trans (hT5.below (by omega) (by have := hB4.size; omega))
        by_cases hlt2 : k < y % 5
        · have hlt2' : (k : Int) < (y : Int) % 5 := by omega
          go_wp2_with fail
          refine (open_log g s5 t5 nl P wr hd5 (by omega) hst5.up hst5.jn (by omega) hnl62).mono ?_
          rintro e w6 ⟨s6, hd6, hfz6, ht6, hO⟩
          have hn6 := hfz6.n.trans hn5
          have hf6 := (hfz6.fuse (by omega)).trans hf5
          obtain ⟨b6, t6, hle, hle6, rfl, hb6, hst6, hL6⟩ | ⟨_, hfx, _⟩ := hO
          · have hq6 := ht6.blk hq5 (.inr (by omega))
            have hp6 := (hp5.mono (F' := fun q => wo.heap.size ≤ q ∧ q < wr.heap.size) (fun q hq hF => ⟨hF.1, hq⟩)).tl (Tl.disk (b := b6) ht6) (fun q hq => by omega)
            have q0 := hq6.cell (j := 0) (u := .slice A3 (N - 9) c3) rfl
            have q1 := hq6.cell (j := 1) (u := .int .i64 (nl : Int)) rfl
            have hbl6 := hL6.blt
            have htold := told_ g b6 s6 t6 nl P w6.drew (hL6.below ((Below.refl _ _).drew)) hst6 (by omega) hnl62
            rw [hn6] at htold
            have hz6 := ht6.size
            have hql6 := hq6.lt
            clear hp5 hq5 hq4 hp4 hd5
            go_wp2_with fail
            go_region_held3 (fun w' => w'.cell? ⟨w3.heap.size, 0, none⟩ = some (.slice A3 (N - 9) c3) ∧ w'.cell? ⟨w3.heap.size, 1, none⟩ = some (.int .i64 (nl : Int)))
              (first | go_keep | exact ⟨q0, q1⟩ | exact ⟨ht7.cell q0 (.inl (by show w3.heap.size < b6; omega)), ht7.cell q1 (.inl (by show w3.heap.size < b6; omega))⟩ | exact ⟨(hb8.cell (show w3.heap.size < w7.heap.size from hl7)).trans (ht7.cell q0 (.inl (by show w3.heap.size < b6; omega))), (hb8.cell (show w3.heap.size < w7.heap.size from hl7)).trans (ht7.cell q1 (.inl (by show w3.heap.size < b6; omega)))⟩)
              (first
                | (go_at_call 19; refine htold.mono ?_; rintro e w7 ⟨A7, c7, rfl, hp7, hc7, hm7, hL7, ht7⟩
                   have hl7 : w3.heap.size < w7.heap.size := by have := ht7.size; simp at this; omega)
                | (go_at_call 18
                   refine (same_ _ _ A7 A3 (N - 9) c7 c3 nl _ w7 hp7 ((hp6.below ((Below.refl _ _).drew)).tl (Tl.log (g := g) ht7) (fun q hq => by omega)) (by omega)).mono ?_
                   rintro e w8 ⟨rfl, hb8⟩))
            have hT6 : Tn g (g + 3) w4 w6 := hT5.trans ht6
            have hT7 : Tn g (g + 3) w4 w7 := hT6.new ht7.drew (by omega)
            have hT8 := hT7.trans (Tn.ofBelow hb8 (Nat.le_refl _))
            have hd8 := (hL7.below hb8).disk
            clear q0 q1 htold hp6 hp7 hL6 hL7 hd6 hq6
            go_wp2
            go_roundw
            case rel => exact ⟨k + 1, by omega, by go_num, s6, t6, hd8, hst6, hf6, hn6, by omega, hT8⟩
            case measure => simp [intOf]; omega
          · omega
        · have hlt2' : ¬ (k : Int) < (y : Int) % 5 := by omega
          go_wp2
          go_ret
          exact ⟨rfl, hB5⟩

set_option maxRecDepth 100000 in
theorem walOpens_lifted (os : Os) (started : os.Started) (H : Type) (enc : TypeId × Value → H) :
    ReturnsInHanded {} Try.checked os 5 .any (Rows.walOpensSpec.pre6 enc Try.prog Try.f5 Rows.walOpensRow.domain false) (Rows.walOpensSpec.post enc Try.prog Try.f5 false true false false) := by
  refine law_lifted (C := Try.checked) (tb := 4) own_ started (by kernel_rfl) Try.func5
    (ChangeSpec.witness6 (enc := enc) (C := Try.checked) false ⟨#[], #[.int .u8 0, .slice none 0 0, .int .u8 0], []⟩ 8 (by kernel_rfl) (by kernel_rfl) (by kernel_rfl) (by kernel_rfl))
    rfl rfl Try.underlying4 laidOut_ (by kernel_rfl) (fun ds h => by match ds, h with | [_, _, _], _ => rfl) ?_
  intro W base args ds p hval0 hA0 _ hsz0
  have hval : ∀ (j : Nat) t v, Try.f5.params[j]? = some t → args[j]? = some v → Value.okWide Try.prog W .any base t v := hval0
  have hA : DataW.TrodAll enc Try.prog W 0 (fun _ => true) true Try.f5.params.toList args.toList ds p := hA0
  have hsz : (DataW.weightsEach Try.prog Try.f5.params.toList ds).all (· ≤ reachBytes) = true := hsz0
  clear hval0 hA0 hsz0
  rw [Try.params5] at hA hval hsz
  obtain ⟨v0, v1, v2, d0, d1, d2, p0, p1, p2, rfl, rfl, rfl, h0, h1, h2⟩ := trodAll_three hA
  obtain ⟨k0, rfl, hz0⟩ := arg_nat _ Try.underlying5 (hval 0 _ v0 rfl rfl) h0 wf_u8
  obtain ⟨A1, n1, c1, xs1, rfl, r1, b1⟩ := arg_slice ops_acts Try.underlying22 (hval 1 _ v1 rfl rfl) h1 (weight_at hsz (j := 1) rfl rfl)
  obtain ⟨k2, rfl, hz2⟩ := arg_nat _ Try.underlying5 (hval 2 _ v2 rfl rfl) h2 wf_u8
  exact walOpens_walk k0 A1 n1 c1 xs1 k2 W hz0 r1 hz2

/-- WalOpens, for every input: the statement as it was given. -/
theorem walOpens_holds : Rows.WalOpensSaid :=
  OpenClaim.holds_of_wide 5 Try.f5 rfl rfl rfl rfl rfl rfl rfl ⟨rfl, rfl, rfl, rfl, rfl⟩ rfl rfl rfl rfl rfl (by kernel_rfl) Try.func5 (by kernel_rfl)
    (of_decide_eq_true (by kernel_rfl)) (by unfold Func.isWrapper; first | (rw [if_pos (by decide +kernel)]; kernel_rfl) | (rw [if_neg (by decide +kernel)]; exact ⟨rfl, rfl⟩))
    (fun os started H enc _ => walOpens_lifted os started H enc)
end Go.Proofs.Ytlpbdnncbinbmaa
