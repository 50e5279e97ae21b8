/- Proves WalNobody of layer 4 (the log), for every input, with no condition: a log that nobody opened answers an error; bytes that were handed in, or read, may be written over. -/
import Derived.Test.YtlpbdnncbinbmaaWalJ
import Derived.Test.YtlpbdnncbinbmaaWalS
namespace Go.Proofs.Ytlpbdnncbinbmaa
open Go.ChangeShapes Go.WideShapes Go.ChangeAt Go.RowKit Go.Maps

/-- A log that nobody opened. -/
def NoLog (w : World) (v : Value) : Prop := v = .pointer none ∨ ∃ b, v = .pointer (some ⟨b, 0, none⟩) ∧ w.cell? ⟨b, 0, none⟩ = some (.pointer none)
theorem NoLog.below {w w' : World} {v : Value} (h : NoLog w v) (hb : Below w.heap.size w w') : NoLog w' v := by
  rcases h with h | ⟨b, h, hc⟩
  · exact .inl h
  · exact .inr ⟨b, h, (hb.cell (cell_lt hc)).trans hc⟩
theorem lmade_no (v : Value) (w : World) (h : NoLog w v) : Calls Try.prog 31 #[v] w fun e w' => e = .returned (.bool false) ∧ w = w' := by
  rcases h with rfl | ⟨b, rfl, hc⟩
  · exact lmade_nil w
  · exact lmade_zero b w hc
set_option maxRecDepth 100000 in
theorem lread_no (v : Value) (i : Int) (w : World) (h : NoLog w v) : Calls Try.prog 28 #[v, .int .i64 i] w fun e w' => e = .returned (.tuple #[.slice none 0 0, .int .i64 2]) ∧ w = w' := by
  go_enter Try.func28, Try.ntmps28
  go_wp2_with fail
  refine (lmade_no v w h).mono ?_
  rintro e w' ⟨rfl, rfl⟩
  go_wp2
  go_ret2
  exact ⟨rfl, rfl⟩
set_option maxRecDepth 100000 in
theorem commit_no (v u : Value) (w : World) (h : NoLog w v) : Calls Try.prog 15 #[v, u] w fun e w' => e = .returned (.int .i64 2) ∧ w = w' := by
  go_enter Try.func15, Try.ntmps15
  go_wp2_with fail
  refine (lmade_no v w h).mono ?_
  rintro e w' ⟨rfl, rfl⟩
  go_wp2
  go_ret
  exact ⟨rfl, rfl⟩
set_option maxRecDepth 100000 in
theorem number_no (v : Value) (w : World) (h : NoLog w v) : Calls Try.prog 22 #[v] w fun e w' => e = .returned (.int .i64 0) ∧ w = w' := by
  go_enter Try.func22, Try.ntmps22
  go_wp2_with fail
  refine (lmade_no v w h).mono ?_
  rintro e w' ⟨rfl, rfl⟩
  go_wp2
  go_ret
  exact ⟨rfl, rfl⟩
set_option maxRecDepth 100000 in
theorem places_no (v : Value) (w : World) (h : NoLog w v) : Calls Try.prog 29 #[v] w fun e w' => e = .returned (.int .i64 0) ∧ w = w' := by
  go_enter Try.func29, Try.ntmps29
  go_wp2_with fail
  refine (lmade_no v w h).mono ?_
  rintro e w' ⟨rfl, rfl⟩
  go_wp2
  go_ret
  exact ⟨rfl, rfl⟩

abbrev nbO (a : Int) (X : Option Addr) (m c : Nat) : Obj := .cells #[.int .i64 a, .slice X m c] 61
set_option maxRecDepth 100000 in
set_option maxHeartbeats 4000000 in
theorem walNobody_walk (a : Int) (X : Option Addr) (m c : Nat) (x : List UInt8) (w : World) (hx : Bs w X m x) (hX : X = none → m = 0 ∧ c = 0) (hmc : m ≤ c) (hc : c ≤ 140737488351232) :
    Calls Try.prog 7 #[.agg #[.int .i64 a, .slice X m c]] w fun e w' => e = .returned (.bool true) ∧ Below w.heap.size w w' := by
  have kc := fun (w : World) (C : Array Value) (n c g : Nat) (hg : g = w.heap.size) => Joins.run_convert_bytes_const_at (P := Try.prog) w 36 5 C n c g hg Try.underlying36 Try.underlying5
  have hu : Blk (((w.alloc (nbO a X m c)).alloc (.cells #[.pointer none, .int .i64 0] 63)).alloc (.cells #[.pointer none, .pointer (some ⟨w.heap.size + 1, 0, none⟩)] 24)) w.heap.size 61 #[.int .i64 a, .slice X m c] := ((Blk.new w _ _ rfl).alloc _).alloc _
  have hl : Blk (((w.alloc (nbO a X m c)).alloc (.cells #[.pointer none, .int .i64 0] 63)).alloc (.cells #[.pointer none, .pointer (some ⟨w.heap.size + 1, 0, none⟩)] 24)) (w.heap.size + 1) 63 #[.pointer none, .int .i64 0] := (Blk.new _ _ _ (by simp)).alloc _
  have hr : Blk (((w.alloc (nbO a X m c)).alloc (.cells #[.pointer none, .int .i64 0] 63)).alloc (.cells #[.pointer none, .pointer (some ⟨w.heap.size + 1, 0, none⟩)] 24)) (w.heap.size + 1 + 1) 24 #[.pointer none, .pointer (some ⟨w.heap.size + 1, 0, none⟩)] := Blk.new _ _ _ (by simp)
  have hx0 : Bs (((w.alloc (nbO a X m c)).alloc (.cells #[.pointer none, .int .i64 0] 63)).alloc (.cells #[.pointer none, .pointer (some ⟨w.heap.size + 1, 0, none⟩)] 24)) X m x := ((hx.alloc _).alloc _).alloc _
  have hB0 : Below w.heap.size w (((w.alloc (nbO a X m c)).alloc (.cells #[.pointer none, .int .i64 0] 63)).alloc (.cells #[.pointer none, .pointer (some ⟨w.heap.size + 1, 0, none⟩)] 24)) := by go_grown
  have hXb := rd_block hx
  go_enter Try.func7, Try.ntmps7
  go_wp2_with fail
  generalize ((w.alloc (nbO a X m c)).alloc (.cells #[.pointer none, .int .i64 0] 63)).alloc (.cells #[.pointer none, .pointer (some ⟨w.heap.size + 1, 0, none⟩)] 24) = w0 at *
  go_loopw [19] (fun i wr => ∃ j : Nat, j ≤ 2 ∧ i = .int .i64 (j : Int) ∧ Below w0.heap.size w0 wr) (fun i _ => 2 - (intOf i).toNat)
  case atStart => exact ⟨0, by omega, rfl, Below.refl _ _⟩
  case round =>
    obtain ⟨j, hj, rfl, hB⟩ := hrel
    have hur := hu.keep hB
    have hlr := hl.keep hB
    have hrr := hr.keep hB
    have hxr := hx0.below hB
    have hBr := hB0.trans (hB.mono hB0.size)
    have hzr := hBr.size
    by_cases hlt : j < 2
    · have hpick : ∃ v, wr.cell? ⟨w.heap.size + 1 + 1, j, none⟩ = some v ∧ NoLog wr v := by
        rcases (show j = 0 ∨ j = 1 by omega) with rfl | rfl
        · exact ⟨_, hrr.cell (j := 0) rfl, .inl rfl⟩
        · exact ⟨_, hrr.cell (j := 1) rfl, .inr ⟨_, rfl, hlr.cell (j := 0) rfl⟩⟩
      obtain ⟨v, hv, hno⟩ := hpick
      have u0 := hur.cell (j := 0) (u := .int .i64 a) rfl
      have u1 := hur.cell (j := 1) (u := .slice X m c) rfl
      have hul := hur.lt
      have hU := Uss.one (w := wr) (lo := wr.heap.size + 1) (hi := wr.heap.size) (t := 61) (a := a) hxr hX hmc (by unfold maxLen; omega) (fun p hp h0 => .inl (by have := rd_block hxr p hp h0; omega)) (Nat.le_refl _)
      have hno1 := hno.below ((Below.refl wr.heap.size wr).alloc (Nat.le_refl _) (nbO a X m c))
      go_wp2_with (first
        | (refine (lread_no v a wr hno).mono ?_; rintro e w' ⟨rfl, rfl⟩)
        | (refine (theirs_ (wr.heap.size + 1) wr.heap.size _ 1 1 [(a, x)] _ hU (by simp) (by omega)).mono ?_
           rintro e w2 ⟨A2, c2, rfl, _, hb2⟩
           have hno2 := hno1.below hb2)
        | (refine (commit_no v _ w2 hno2).mono ?_; rintro e w' ⟨rfl, rfl⟩)
        | (refine (number_no v w2 hno2).mono ?_; rintro e w' ⟨rfl, rfl⟩)
        | (refine (places_no v w2 hno2).mono ?_; rintro e w' ⟨rfl, rfl⟩)
        | fail)
      go_roundw
      case rel => exact ⟨j + 1, by omega, by go_num, (hB.alloc hB.size (nbO a X m c)).trans (hb2.mono (by simp; have := hB.size; omega))⟩
      case measure => simp [intOf]; omega
    · clear hu hl hr hx0 hB0 hB hur hlr hrr hxr
      go_wp2_with fail
      refine (format_nil wr).mono ?_
      rintro e w' ⟨rfl, rfl⟩
      go_wp2_with fail
      refine (begin_ 11 wr (by decide) (by decide)).mono ?_
      rintro e w1 ⟨g, b, s1, t1, rfl, hg, hb1, hL1, hst1, ht1, hn1, hf1⟩
      have hbl := hL1.blt
      have hblt := hL1.lt
      have hB1 := hBr.trans (hb1.mono hzr)
      go_wp2_with fail
      have hxo := Bs.new w1 [97, 98, 99] 5 (3, 4)
      have hU := Uss.one (w := w1.alloc (.cells (bvs [97, 98, 99]).toArray 5 (3, 4))) (lo := g) (hi := b + 1) (t := 67) (a := 1) hxo (fun e => by cases e) (Nat.le_refl 3) (by unfold maxLen; omega) (fun p hp _ => by injection hp with hp; subst hp; exact .inr (by show b + 1 ≤ w1.heap.size; omega)) (by simp; omega)
      simp only [World.size_alloc] at hU
      have hqW : ((w1.alloc (.cells (bvs [97, 98, 99]).toArray 5 (3, 4))).alloc (.cells #[.int .i64 1, .slice (some ⟨w1.heap.size, 0, none⟩) 3 3] 67)).heap[w1.heap.size]? = some (.cells (bvs [97, 98, 99]).toArray 5 (3, 4)) :=
        (((Below.refl (w1.heap.size + 1) (w1.alloc (.cells (bvs [97, 98, 99]).toArray 5 (3, 4)))).alloc (by simp) _).block _ (Nat.lt_succ_self _)).trans (heap_alloc_new w1 _)
      have hLk := (hL1.alloc (.cells (bvs [97, 98, 99]).toArray 5 (3, 4))).alloc (.cells #[.int .i64 1, .slice (some ⟨w1.heap.size, 0, none⟩) 3 3] 67)
      have hB1' : Below w.heap.size w ((w1.alloc (.cells (bvs [97, 98, 99]).toArray 5 (3, 4))).alloc (.cells #[.int .i64 1, .slice (some ⟨w1.heap.size, 0, none⟩) 3 3] 67)) := (hB1.alloc hB1.size _).alloc (by simp; have := hB1.size; omega) _
      have hz1' : w1.heap.size + 2 = ((w1.alloc (.cells (bvs [97, 98, 99]).toArray 5 (3, 4))).alloc (.cells #[.int .i64 1, .slice (some ⟨w1.heap.size, 0, none⟩) 3 3] 67)).heap.size := by simp
      have hzw1 := hB1.size
      refine (commit_any g b s1 t1 0 zeroP _ 1 1 [(1, [97, 98, 99])] _ hLk hst1 hU (by omega) (by unfold topN; omega) (by decide)).mono ?_
      clear hU hxo kc hLk hL1
      have hU1 : ((w1.alloc (.cells #[.int .u8 97, .int .u8 98, .int .u8 99] 5 (3, 4))).alloc (.cells #[.int .i64 1, .slice (some ⟨w1.heap.size, 0, none⟩) 3 3] 67)) = ((w1.alloc (.cells (bvs [97, 98, 99]).toArray 5 (3, 4))).alloc (.cells #[.int .i64 1, .slice (some ⟨w1.heap.size, 0, none⟩) 3 3] 67)) := rfl
      generalize ((w1.alloc (.cells (bvs [97, 98, 99]).toArray 5 (3, 4))).alloc (.cells #[.int .i64 1, .slice (some ⟨w1.heap.size, 0, none⟩) 3 3] 67)) = wa at *
      rintro e w2 ⟨E, s2, n2, rfl, hfz2, hT2, hL2, hC⟩
      have hr0 : rightE (s1.n - 9) [(1, [97, 98, 99])] = 0 := rightE_one (by omega) (by rw [hn1]; decide) (by decide)
      obtain ⟨hr, _⟩ | ⟨_, rfl, rfl, t2, ht2, hst2⟩ | ⟨_, _, _, hf, _⟩ := hC
      · exact absurd hr0 hr
      · have hq2 := (hT2.block w1.heap.size (by omega) (.inr (by omega)) (by omega)).trans hqW
        have q0 : w2.cell? ⟨w1.heap.size, 0, none⟩ = some (.int .u8 97) := by unfold World.cell?; simp [hq2, bvs, bv]
        have q1 : w2.frozen? ⟨w1.heap.size, 0, none⟩ = false := by unfold World.frozen?; simp [hq2]
        have hB2 : Below w.heap.size w w2 := hB1'.trans (hT2.below (by omega) (by omega) (by omega))
        have hz2 := hT2.size
        have hn2 := hfz2.n
        clear hT2 hqW hB1' hr0
        go_wp2_with fail
        have hB3 := hB2.grown (grown_setCell w2 ⟨w1.heap.size, 0, none⟩ (.int .u8 120)) hB2.size (fun k e => by injection e with e; simp only at e; omega)
        have hL3 := hL2.tn (Tn.set (lo := w1.heap.size) (hi := w1.heap.size + 1) w2 0 (.int .u8 120) (Nat.le_refl _) (Nat.lt_succ_self _)) (.inr hbl)
        have hz3 : w2.heap.size = (w2.setCell ⟨w1.heap.size, 0, none⟩ (.int .u8 120)).heap.size := by simp
        generalize w2.setCell ⟨w1.heap.size, 0, none⟩ (.int .u8 120) = w3 at *
        refine (lread_ g b s2 t2 1 1 _ w3 hL3 hst2 (by unfold topN; omega) (by decide) (by omega)).mono ?_
        rintro e w4 ⟨p4, rfl, hp4, hbk4, hL4, ht4⟩
        have hB4 := hB3.trans (ht4.below (by omega) (by omega))
        have hz4 := hB4.size
        have hlp4 := hbk4.lt
        have e0 := hbk4.cell (j := 1) (u := .int .u8 98) rfl
        have e1 := hbk4.free 1
        go_wp2_with fail
        have hB5 := hB4.grown (grown_setCell w4 ⟨p4, 1, none⟩ (.int .u8 120)) hB4.size (fun k e => by injection e with e; simp only at e; omega)
        have hL5 := hL4.tn (Tn.set (lo := p4) (hi := p4 + 1) w4 1 (.int .u8 120) (Nat.le_refl _) (Nat.lt_succ_self _)) (.inr (by omega))
        have hz5 : w4.heap.size = (w4.setCell ⟨p4, 1, none⟩ (.int .u8 120)).heap.size := by simp
        generalize w4.setCell ⟨p4, 1, none⟩ (.int .u8 120) = w5 at *
        refine (lread_ g b s2 t2 1 1 _ w5 hL5 hst2 (by unfold topN; omega) (by decide) (by omega)).mono ?_
        rintro e w6 ⟨p6, rfl, hp6, hbk6, hL6, ht6⟩
        have hB6 := hB5.trans (ht6.below (by omega) (by omega))
        have hbs6 := bs_blk hbk6
        have hb3 : Bs w6 (some ⟨p6, 0, none⟩) 3 [97, 98, 99] := by
          have := hbs6.take (k := 3) (by decide)
          exact this
        have k1 := run_str hb3 (fun e => by cases e) 36 9 5 Try.underlying36 Try.underlying5 Try.underlying9 64
        go_wp2_with (first | (refine (alive_ w6).mono ?_; rintro e w7 ⟨rfl, hb7⟩) | fail)
        go_ret
        exact ⟨rfl, hB6.trans (hb7.mono hB6.size)⟩
      · omega

set_option maxRecDepth 100000 in
theorem walNobody_lifted (os : Os) (started : os.Started) (H : Type) (enc : TypeId × Value → H) :
    ReturnsInHanded {} Try.checked os 7 .any (Rows.walNobodySpec.pre6 enc Try.prog Try.f7 Rows.walNobodyRow.domain false) (Rows.walNobodySpec.post enc Try.prog Try.f7 false true false false) := by
  refine law_lifted (C := Try.checked) (tb := 4) own_ started (by kernel_rfl) Try.func7
    (ChangeSpec.witness6 (enc := enc) (C := Try.checked) false ⟨#[], #[.agg #[.int .i64 0, .slice none 0 0]], []⟩ 8 (by kernel_rfl) (by kernel_rfl) (by kernel_rfl) (by kernel_rfl))
    rfl rfl Try.underlying4 laidOut_ (by kernel_rfl) (fun ds h => by match ds, h with | [_], _ => rfl) ?_
  intro W base args ds p hval0 hA0 _ hsz0
  have hval : ∀ (j : Nat) t v, Try.f7.params[j]? = some t → args[j]? = some v → Value.okWide Try.prog W .any base t v := hval0
  have hA : DataW.TrodAll enc Try.prog W 0 (fun _ => true) true Try.f7.params.toList args.toList ds p := hA0
  have hsz : (DataW.weightsEach Try.prog Try.f7.params.toList ds).all (· ≤ reachBytes) = true := hsz0
  clear hval0 hA0 hsz0
  rw [Try.params7] at hA hval hsz
  obtain ⟨v0, d0, rfl, rfl, h0⟩ := trodAll_one hA
  obtain ⟨cs0, a0, rfl, r0, b0⟩ := arg_struct ops_upd Try.underlying61 (hval 0 _ v0 rfl rfl) h0 (weight_at hsz (j := 0) rfl rfl)
  obtain ⟨X, m, c, hcs, h1, h2, h3, h4, _, _⟩ := upd_is r0
  obtain rfl : cs0 = #[.int .i64 a0.1, .slice X m c] := Array.toList_inj.1 (by rw [hcs])
  exact walNobody_walk a0.1 X m c a0.2.1 W h1 h2 h3 h4

/-- WalNobody, for every input: the statement as it was given. -/
theorem walNobody_holds : Rows.WalNobodySaid :=
  OpenClaim.holds_of_wide 7 Try.f7 rfl rfl rfl rfl rfl rfl rfl ⟨rfl, rfl, rfl, rfl, rfl⟩ rfl rfl rfl rfl rfl (by kernel_rfl) Try.func7 (by kernel_rfl)
    (of_decide_eq_true (by kernel_rfl)) (by unfold Func.isWrapper; first | (rw [if_pos (by decide +kernel)]; kernel_rfl) | (rw [if_neg (by decide +kernel)]; exact ⟨rfl, rfl⟩))
    (fun os started H enc _ => walNobody_lifted os started H enc)
end Go.Proofs.Ytlpbdnncbinbmaa
