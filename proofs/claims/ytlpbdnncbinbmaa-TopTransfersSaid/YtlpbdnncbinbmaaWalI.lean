/- The statements' own functions, of layer 4: theirs, size, begin, alive; what comes in. -/
import Derived.Test.YtlpbdnncbinbmaaWalH
import Derived.Test.YtlpbdnncbinbmaaShp
import Derived.Lib.MinMax
namespace Go.Proofs.Ytlpbdnncbinbmaa
open Go.ChangeShapes Go.WideShapes Go.ChangeAt Go.RowKit Go.Maps

theorem own_ : ownKnob Try.prog.godebug = none := by kernel_rfl
theorem laidOut_ : laidOutB Try.prog = true := by kernel_rfl

set_option maxRecDepth 100000 in
set_option maxHeartbeats 2000000 in
theorem theirs_ (lo hi : Nat) (A : Option Addr) (n c : Nat) (l : List Upd) (w : World) (hU : Uss w lo hi A n l) (hhi : hi ≤ w.heap.size) (hn : n * 32 ≤ 140737488351232) :
    Calls Try.prog 16 #[.slice A n c] w fun e w' => ∃ A' c', e = .returned (.slice A' n c') ∧ Uss w' lo hi A' n l ∧ Below w.heap.size w w' := by
  obtain ⟨i0, hi0, hz0, hz1, hz2⟩ := info_parts info_upd
  have Hz := Lib.hid hz2
  clear hz2
  have Hn := Lib.hid hU.1
  go_enter Try.func16, Try.ntmps16
  go_wp2_with fail
  go_loopw [8, 3] (fun i v wr => ∃ j : Nat, j ≤ n ∧ i = .int .i64 (j : Int) ∧ ∃ cs, wr.ownsRow w.heap.size 67 2 v j cs ∧ UC wr (fun b => b < w.heap.size ∧ (b < lo ∨ hi ≤ b)) cs (l.take j) ∧ Below w.heap.size w wr) (fun i _ _ => n - (intOf i).toNat)
  case atStart => exact ⟨0, Nat.zero_le _, rfl, [], own_nil _ _ _ _, UC.nil, Below.refl _ _⟩
  case round =>
    obtain ⟨j, hj, rfl, cs, hown, hC, hB⟩ := hrel
    obtain ⟨A6, c6, rfl, hc6, hm6, ha6⟩ := own_form hown
    have hz := hB.size
    by_cases hlt : j < n
    · obtain ⟨q, o, X, m, xc, rfl, hx, hc0', hc1', hb', hX, hnc, hcm, hXo, hbo⟩ := hU.at_ hlt
      have hc0 : wr.cell? ⟨q, o + j * 2, none⟩ = _ := (hB.cell (cell_lt hc0')).trans hc0'
      have hc1 : wr.cell? ⟨q, o + j * 2 + 1, none⟩ = _ := (hB.cell (cell_lt hc1')).trans hc1'
      have hb := hb'.below hB
      have hXb := rd_block hb'
      have HT := Lib.hid (List.take_succ_eq_append_getElem hx)
      obtain ⟨u, hu⟩ : ∃ u, l[j] = u := ⟨_, rfl⟩
      rw [hu] at hc0 hb HT
      obtain ⟨a, x⟩ := u
      simp only at hc0 hb
      have hrow : ∀ q, (Value.slice A6 j c6).ownBlock = some q → w.heap.size ≤ q ∧ q < wr.heap.size := fun q hq => hown.lt q hq
      clear hu hc0' hc1' hb'
      go_wp2_with (first
        | (at_builtin
           refine wpList_app _ rfl (.tmp 12) (.tmp 18) _ rfl w.heap.size 67 i0 (.agg #[.int .i64 0, .slice none 0 0]) 2 32 Try.underlying42 hi0 hz0 hz1 Hz.out rfl (by decide) (.slice A6 j c6) j cs rfl ((hown.alloc _).alloc _) (some ⟨wr.heap.size + 1, 0, none⟩) 1 1 [.int .i64 a, .slice X m xc] rfl (by simp) (by have := Rd.new (wr.alloc (.cells #[.int .i64 a, .slice X m xc] 61)) #[.int .i64 a, .slice X m xc] 67 (0, 0) (sz := 2) (n := 1) rfl; simpa using this) (by simp [Value.oneCell']) (by unfold maxLen; omega) (by omega) (by simp; omega) ?_
           intro v7 w7 hown7 hg7 hat7)
        | fail)
      go_roundw
      case rel =>
        refine ⟨j + 1, by omega, by go_num, _, hown7, ?_, ?_⟩
        · rw [HT.out]
          have k1 : Below wr.heap.size wr ((wr.alloc (.cells #[.int .i64 a, .slice X m xc] 61)).alloc (.cells #[.int .i64 a, .slice X m xc] 67)) := by go_grown
          have h2 := (hC.below k1).grown hg7 fun p hF e => by have := (hrow p e.symm).1; omega
          have hb7 := bs_grown (hb.below k1) hg7 (fun p hp h0 e => by have := (hrow _ e.symm).1; have := hXb p hp h0; omega)
          exact h2.snoc (a, x) hb7 hX hnc hcm (fun p hp h0 => ⟨hXb p hp h0, hXo p hp h0⟩)
        · have k1 : Below w.heap.size w ((wr.alloc (.cells #[.int .i64 a, .slice X m xc] 61)).alloc (.cells #[.int .i64 a, .slice X m xc] 67)) := by go_grown
          exact k1.grown hg7 k1.size (fun p hp => (hrow p hp).1)
      case measure => simp [intOf]; omega
    · obtain rfl : j = n := by omega
      rw [List.take_of_length_le (by rw [← Hn.out]; exact Nat.le_refl _)] at hC
      go_wp2
      go_ret
      refine ⟨A6, c6, rfl, ⟨Hn.out, cs, rd_own hown, hC.mono fun p _ hF => hF.2, fun a ha _ => ?_⟩, hB⟩
      have := (hown.lt a.block (by rw [ha]; rfl)).1
      omega

set_option maxRecDepth 100000 in
theorem size_ (k : Nat) (w : World) (hk : k < 256) : Calls Try.prog 11 #[.int .u8 (k : Int)] w fun e w' => e = .returned (.int .i64 ((k % 20 + 10 : Nat) : Int)) ∧ w = w' := by
  have h1 : (k : Int).tmod 20 = ((k % 20 : Nat) : Int) := by rw [Int.tmod_eq_emod_of_nonneg (by omega)]; omega
  have h2 : ((k % 20 + 10 : Nat) : Int) = (k : Int) % 20 + 10 := by omega
  have H2 := Lib.hid h2
  clear h2
  go_enter Try.func11, Try.ntmps11
  go_wp2
  go_ret
  rw [H2.out]
  exact ⟨by simp [go_sem], rfl⟩

/-! ### begin -/
theorem bare_fresh (n : Nat) : Bare (DS.fresh n) := ⟨⟨rfl, fun _ => rfl⟩, by show (hdOf zeros).1 = 0; rw [hdOf_zeros], by show (hdOf zeros).1 = 0; rw [hdOf_zeros]⟩
theorem neg_not {z : Int} (h : z < 0) (h2 : 0 ≤ z) : False := by omega
set_option maxRecDepth 100000 in
set_option maxHeartbeats 2000000 in
theorem begin_ (n : Nat) (w : World) (h1 : 10 ≤ n) (h2 : n ≤ 256) :
    Calls Try.prog 10 #[.int .i64 (n : Int)] w fun e w' => ∃ g b s t, e = .returned (.tuple #[.pointer (some ⟨g + 2, 0, none⟩), .pointer (some ⟨b, 0, none⟩), .bool true]) ∧ w.heap.size ≤ g ∧ Below w.heap.size w w' ∧ Lk w' g b s 0 ∧ St s t 0 zeroP ∧ t ≤ 3 ∧ s.n = n ∧ s.fuse = -1 := by
  go_enter Try.func10, Try.ntmps10
  go_wp2_with fail
  refine (new_ n w (by omega) h2).mono ?_
  rintro e w1 ⟨g, rfl, hg, hd1, hb1⟩
  go_wp2_with fail
  refine (format_ g (DS.fresh n) w1 hd1 h1 (bare_fresh n)).mono ?_
  rintro e w2 ⟨s2, hd2, hfz2, ht2, hF⟩
  have hf2 := hfz2.fuse (show (DS.fresh n).fuse < 0 by show (-1 : Int) < 0; decide)
  have hn2 : s2.n = n := hfz2.n
  obtain ⟨t', ht', rfl, hst⟩ | ⟨_, hf, _⟩ := hF
  · have hB2 : Below w.heap.size w w2 := hb1.trans (ht2.below (by omega) hb1.size)
    go_wp2_with fail
    refine (open_log g s2 t' 0 zeroP w2 hd2 (by omega) hst.up hst.jn (by unfold topN; omega) (by decide)).mono ?_
    rintro e w3 ⟨s3, hd3, hfz3, ht3, hO⟩
    have hf3 := hfz3.fuse (by rw [hf2]; show (-1 : Int) < 0; decide)
    obtain ⟨b, t'', hle, hle2, rfl, hb, hst3, hL3⟩ | ⟨_, hf, _⟩ := hO
    · have hB3 : Below w.heap.size w w3 := hB2.trans (ht3.below (by omega) (by have := hB2.size; omega))
      go_wp2
      refine bodyPost_ret (v := .tuple #[.pointer (some ⟨g + 2, 0, none⟩), .pointer (some ⟨b, 0, none⟩), .bool true]) (by simp [results, Try.results10, go_sem]) rfl ?_
      exact ⟨g, b, s3, t'', rfl, by omega, hB3, hL3, hst3, by omega, hfz3.n.trans hn2, by rw [hf3, hf2]; rfl⟩
    · rw [hf2] at hf
      exact absurd hf (by show ¬ (0 : Int) ≤ -1; decide)
  · exact absurd hf (by show ¬ (0 : Int) ≤ -1; decide)
end Go.Proofs.Ytlpbdnncbinbmaa
