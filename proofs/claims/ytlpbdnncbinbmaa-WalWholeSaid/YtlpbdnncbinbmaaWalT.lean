/- The statements' told, of layer 4. -/
import Derived.Test.YtlpbdnncbinbmaaWalR
import Derived.Test.YtlpbdnncbinbmaaWalK
namespace Go.Proofs.Ytlpbdnncbinbmaa
open Go.ChangeShapes Go.WideShapes Go.ChangeAt Go.RowKit Go.Maps

theorem Blk.set2 {w : World} {b : Nat} {t : TypeId} {x y : Value} (h : Blk w b t #[x, y]) (u0 u1 : Value) : Blk ((w.setCell ⟨b, 0, none⟩ u0).setCell ⟨b, 1, none⟩ u1) b t #[u0, u1] := by
  simpa using (h.setCell 0 u0).setCell 1 u1
theorem grown2 (w : World) (b : Nat) (u0 u1 : Value) : w.grownBy ((w.setCell ⟨b, 0, none⟩ u0).setCell ⟨b, 1, none⟩ u1) (some b) :=
  (grown_setCell w ⟨b, 0, none⟩ u0).trans (grown_setCell _ ⟨b, 1, none⟩ u1)
theorem results_md {fn : Func} {W : World} {q k : Nat} {x y : Value} {tmps : Array Value} (h : fn.results = #[.cell k 30]) (h2 : tmps.getD k undef = .pointer (some ⟨q, 0, none⟩)) (hb : Blk W q 30 #[x, y]) :
    (results fn tmps).run Try.prog W = .ok (.agg #[x, y]) W := by
  have d0 := hb.cell (j := 0) rfl
  have d1 := hb.cell (j := 1) rfl
  have h2' : tmps[k]?.getD undef = .pointer (some ⟨q, 0, none⟩) := by simpa using h2
  simp [results, h, h2', go_sem, d0, d1]
theorem results_md2 {fn : Func} {W : World} {q : Nat} {x y : Value} {tmps : Array Value} (h : fn.results = #[.cell 2 30, .tmp 3]) (h2 : tmps.getD 2 undef = .pointer (some ⟨q, 0, none⟩)) (hb : Blk W q 30 #[x, y]) :
    (results fn tmps).run Try.prog W = .ok (.tuple #[.agg #[x, y], tmps.getD 3 undef]) W := by
  have d0 := hb.cell (j := 0) rfl
  have d1 := hb.cell (j := 1) rfl
  have h2' : tmps[2]?.getD undef = .pointer (some ⟨q, 0, none⟩) := by simpa using h2
  simp [results, h, h2', go_sem, d0, d1]
theorem take_pad {x : List UInt8} (h : x.length = 48) : (pad x).take 48 = x := by
  unfold pad
  rw [List.take_append_of_le_length (by omega), List.take_of_length_le (by omega)]
theorem Tn.grownNew {lo hi : Nat} {a b c : World} {row : Option Nat} (h : Tn lo hi a b) (hg : b.grownBy c row) (hr : ∀ k, row = some k → a.heap.size ≤ k) : Tn lo hi a c :=
  ⟨hg.os.trans h.os, hg.tape.trans h.tape, hg.output.trans h.output, Nat.le_trans h.size hg.size, fun i hi ho => (hg.block i (Nat.lt_of_lt_of_le hi h.size) (by intro e; have := hr i e.symm; omega)).trans (h.block i hi ho)⟩
abbrev mdO (v : Value) (n : Nat) : Obj := .cells (mdC v n) 30
set_option maxRecDepth 100000 in
set_option maxHeartbeats 4000000 in
theorem told_ (g b : Nat) (s : DS) (t n : Nat) (P : Nat → List UInt8) (w : World) (h : Lk w g b s n) (hst : St s t n P) (ht : t ≤ topN) (hn : n ≤ topN) :
    Calls Try.prog 19 #[.pointer (some ⟨b, 0, none⟩)] w fun e w' => ∃ A c, e = .returned (.agg #[.slice A (s.n - 9) c, .int .i64 (n : Int)]) ∧ Pls w' (fun q => w.heap.size ≤ q) A (s.n - 9) (rowsOf P (s.n - 9)) ∧ s.n - 9 ≤ c ∧ c ≤ maxLen ∧ Lk w' g b s n ∧ Tn b (b + 1) w w' := by
  obtain ⟨iu, hiu, huz0, huz1, huz2⟩ := info_parts info_bytes
  have Hu1 := Lib.hid huz1
  have Hu2 := Lib.hid huz2
  clear huz1 huz2
  have hbl := h.blt
  have hmost := h.disk.most
  have hL0 := (h.alloc (mdO (.slice none 0 0) 0))
  have hnum := number_log g b s n _ hL0
  have hL1 := hL0.alloc (mdO (.slice none 0 0) n)
  have hpl := places_log g b s n _ hL1
  have hF0 : Fill w ((w.alloc (mdO (.slice none 0 0) 0)).alloc (mdO (.slice none 0 0) n)) w.heap.size (w.heap.size + 1) n (.slice none 0 0) 0 (rowsOf P 0) :=
    ⟨Blk.new _ _ _ (by simp), (Blk.new w _ _ rfl).alloc _, ⟨[], own_nil _ _ _ _, PC.nil⟩, Nat.lt_succ_self _, Nat.le_refl _⟩
  have hT0 : Tn b (b + 1) w ((w.alloc (mdO (.slice none 0 0) 0)).alloc (mdO (.slice none 0 0) n)) := (Tn.alloc _ _).trans (Tn.alloc _ _)
  clear hL0
  go_enter Try.func19, Try.ntmps19
  go_wp2_with (first
    | (refine hnum.mono ?_; rintro e w' ⟨rfl, rfl⟩)
    | (refine hpl.mono ?_; rintro e w' ⟨rfl, rfl⟩)
    | fail)
  generalize (w.alloc (mdO (.slice none 0 0) 0)).alloc (mdO (.slice none 0 0) n) = w1 at *
  clear hnum hpl
  go_loopw [12] (fun i wr => ∃ j : Nat, j ≤ s.n - 9 ∧ i = .int .i64 (j : Int) ∧ ∃ v, Fill w wr w.heap.size (w.heap.size + 1) n v j (rowsOf P j) ∧ Lk wr g b s n ∧ Tn b (b + 1) w wr) (fun i _ => 300 - (intOf i).toNat)
  case atStart => exact ⟨0, Nat.zero_le _, rfl, _, hF0, hL1, hT0⟩
  case round =>
    obtain ⟨j, hj, rfl, v, hF, hL, hT⟩ := hrel
    clear hF0 hL1 hT0
    have hz := hT.size
    by_cases hlt : j < s.n - 9
    · have hltc : (j : Int) < ((s.n - 9 : Nat) : Int) := by omega
      have h48 := hst.dat.len j hlt
      go_wp2_with fail
      refine (lread_ g b s t n j P _ hL hst ht hn hlt).mono ?_
      rintro e w2 ⟨q, rfl, hq, hbk, hL2, ht2⟩
      have hF2 := hF.tn ht2 (by omega)
      have hT2 := hT.trans ht2
      have hbs : Bs w2 (some ⟨q, 0, none⟩) 48 (P j) := by
        have := bs_blk hbk
        rw [pad_length (by omega)] at this
        have := this.take (k := 48) (by omega)
        rwa [take_pad h48] at this
      have hFlt := hF.self.lt
      obtain ⟨cs, hown, hP⟩ := hF2.own
      obtain ⟨A2, c2, rfl, hc2, hm2, ha2⟩ := own_form hown
      have c0 := hF2.self.cell (j := 0) (u := .slice A2 j c2) rfl
      have f0 := hF2.self.free 0
      have hlt2 := hF2.self.lt
      have hrow : ∀ p, (Value.slice A2 j c2).ownBlock = some p → p < wr.heap.size := fun p hp => by
        obtain ⟨cs', hown', _⟩ := hF.own
        exact (hown'.lt p hp).2
      clear hF hbk ht2
      go_wp2_with (first
        | (at_builtin
           refine wpList_app _ rfl (.tmp 22) (.tmp 24) _ rfl (w.heap.size + 1 + 1) 36 iu (.slice none 0 0) 1 24 Try.underlying28 hiu huz0 Hu1.out Hu2.out rfl Nat.one_pos (.slice A2 j c2) j cs rfl (hown.alloc _) (some ⟨w2.heap.size, 0, none⟩) 1 1 [.slice (some ⟨q, 0, none⟩) 48 64] rfl (by simp) (Rd.new w2 #[.slice (some ⟨q, 0, none⟩) 48 64] 36 (0, 0) rfl) (by simp [Value.oneCell']) (by unfold maxLen; omega) (by omega) (by simp; omega) ?_
           intro v8 w8 hown8 hg8 hat8
           obtain ⟨A8, c8, rfl, hc8, hm8, ha8⟩ := own_form hown8
           have hs8 : Blk w8 (w.heap.size + 1) 30 _ := (hF2.self.alloc (.cells #[.slice (some ⟨q, 0, none⟩) 48 64] 36)).grown hg8 (by intro e; have := (hown.lt _ e.symm).1; omega)
           have c08 := hs8.cell (j := 0) (u := .slice A2 j c2) rfl
           have f08 := hs8.free 0)
        | fail)
      have hF8 := hF2.more (x := P j) hbs (fun e => by cases e) (show 48 ≤ 64 by omega) (by unfold maxLen; omega) (fun a ha _ => by
        injection ha with ha
        subst ha
        exact ⟨by simp only; omega, fun e => by have := hrow _ e.symm; simp only at this; omega⟩) hg8 hown hP hown8 hat8
      have k1 : Tn b (b + 1) w w8 := Tn.grownNew (hT2.trans (Tn.alloc _ (.cells #[.slice (some ⟨q, 0, none⟩) 48 64] 36))) hg8 (fun p hp => by have := (hown.lt p hp).1; omega)
      have k2 : Tn b (b + 1) w (w8.setCell ⟨w.heap.size + 1, 0, none⟩ (.slice A8 (j + 1) c8)) := k1.new (Tn.set (lo := w.heap.size + 1) (hi := w.heap.size + 2) w8 0 _ (Nat.le_refl _) (Nat.lt_succ_self _)) (Nat.le_succ _)
      have hL8 : Lk (w8.setCell ⟨w.heap.size + 1, 0, none⟩ (.slice A8 (j + 1) c8)) g b s n := by
        have hk3 : Tn (w.heap.size + 1) (w2.heap.size + 1) w2 (w8.setCell ⟨w.heap.size + 1, 0, none⟩ (.slice A8 (j + 1) c8)) := by
          have m1 : Tn (w.heap.size + 1) (w2.heap.size + 1) w2 w8 := by
            have m0 : Tn (w.heap.size + 1) (w2.heap.size + 1) w2 (w2.alloc (.cells #[.slice (some ⟨q, 0, none⟩) 48 64] 36)) := Tn.alloc _ _
            exact ⟨hg8.os.trans m0.os, hg8.tape.trans m0.tape, hg8.output.trans m0.output, Nat.le_trans m0.size hg8.size, fun i hi ho => (hg8.block i (Nat.lt_of_lt_of_le hi m0.size) (by intro e; have := hown.lt i e.symm; omega)).trans (m0.block i hi ho)⟩
          exact m1.trans (Tn.set w8 0 _ (Nat.le_refl _) (by omega))
        exact hL2.tn hk3 (.inr (by omega))
      rw [← rowsOf_succ] at hF8
      clear hF2 hP hown hg8 hown8 hat8 hs8 c08 f08 c0 f0 hL2 hT2 hL hT k1
      go_roundw
      case rel => exact ⟨j + 1, by omega, by go_num, _, hF8, hL8, k2⟩
      case measure => simp [intOf]; omega
    · obtain rfl : j = s.n - 9 := by omega
      obtain ⟨cs, hown, hP⟩ := hF.own
      obtain ⟨A2, c2, rfl, hc2, hm2, ha2⟩ := own_form hown
      have c0 := hF.self.cell (j := 0) (u := .slice A2 (s.n - 9) c2) rfl
      have c1 := hF.self.cell (j := 1) (u := .int .i64 (n : Int)) rfl
      have r0 := hF.res.cell (j := 0) (u := .slice none 0 0) rfl
      have r1 := hF.res.cell (j := 1) (u := .int .i64 (0 : Nat)) rfl
      have g0 := hF.res.free 0
      have g1 := hF.res.free 1
      have hlr := hF.res.lt
      clear hown hP
      go_wp2
      refine bodyPost_ret (results_md rfl rfl (hF.res.set2 (.slice A2 (s.n - 9) c2) (.int .i64 (n : Int)))) rfl ?_
      have hset := grown2 wr w.heap.size (.slice A2 (s.n - 9) c2) (.int .i64 (n : Int))
      have hT9 := Tn.grownNew hT hset (fun k e => by injection e with e; omega)
      have hL9 := hL.tn (Tn.ofGrown (lo := w.heap.size) (hi := w.heap.size + 1) hset (Nat.le_refl _) (Nat.lt_succ_self _)) (.inr hbl)
      have hp := (hF.pls (rowsOf_length _ _).symm).grown hset (fun q hq e => by injection e with e; omega)
      exact ⟨A2, c2, rfl, hp.mono fun q _ hq => by omega, hc2, hm2, hL9, hT9⟩
end Go.Proofs.Ytlpbdnncbinbmaa
