/- The document's Same and New, of layer 4. -/
import Derived.Test.YtlpbdnncbinbmaaWalT
import Derived.BigQuiet
namespace Go.Proofs.Ytlpbdnncbinbmaa
open Go.ChangeShapes Go.WideShapes Go.ChangeAt Go.RowKit Go.Maps

set_option maxRecDepth 100000 in
set_option maxHeartbeats 4000000 in
theorem same_ (F G : Nat → Prop) (A B : Option Addr) (n c d num : Nat) (rows : List (List UInt8)) (w : World) (hA : Pls w F A n rows) (hB : Pls w G B n rows) (hn : n ≤ 9223372036854775807) :
    Calls Try.prog 18 #[.agg #[.slice A n c, .int .i64 (num : Int)], .agg #[.slice B n d, .int .i64 (num : Int)]] w fun e w' => e = .returned (.bool true) ∧ Below w.heap.size w w' := by
  have hx : Blk ((w.alloc (mdO (.slice A n c) num)).alloc (mdO (.slice B n d) num)) w.heap.size 30 (mdC (.slice A n c) num) := (Blk.new w _ _ rfl).alloc _
  have hy : Blk ((w.alloc (mdO (.slice A n c) num)).alloc (mdO (.slice B n d) num)) (w.heap.size + 1) 30 (mdC (.slice B n d) num) := Blk.new _ _ _ (by simp)
  have hB0 : Below w.heap.size w ((w.alloc (mdO (.slice A n c) num)).alloc (mdO (.slice B n d) num)) := by go_grown
  have hA0 := hA.below hB0
  have hBB0 := hB.below hB0
  go_enter Try.func18, Try.ntmps18
  go_wp2_with fail
  generalize (w.alloc (mdO (.slice A n c) num)).alloc (mdO (.slice B n d) num) = w1 at *
  go_loopw [5] (fun i wr => ∃ j : Nat, j ≤ n ∧ i = .int .i64 (j : Int) ∧ Below w1.heap.size w1 wr) (fun i _ => n - (intOf i).toNat)
  case atStart => exact ⟨0, Nat.zero_le _, rfl, Below.refl _ _⟩
  case round =>
    obtain ⟨j, hj, rfl, hb⟩ := hrel
    have hxr := hx.keep hb
    have hyr := hy.keep hb
    have x0 := hxr.cell (j := 0) (u := .slice A n c) rfl
    have y0 := hyr.cell (j := 0) (u := .slice B n d) rfl
    have hxl := hxr.lt
    have hyl := hyr.lt
    by_cases hlt : j < n
    · obtain ⟨p, o, X, m, xc, rfl, hx1, cc, hbs, hX, _, _, _, _⟩ := (hA0.below hb).at_ hlt
      obtain ⟨p', o', X', m', xc', rfl, hx2, cc', hbs', hX', _, _, _, _⟩ := (hBB0.below hb).at_ hlt
      have k1 := fun (k : Nat) => run_str (hbs.drewN k) hX 36 9 5 Try.underlying36 Try.underlying5 Try.underlying9 xc
      have k2 := fun (k : Nat) => run_str (hbs'.drewN k) hX' 36 9 5 Try.underlying36 Try.underlying5 Try.underlying9 xc'
      have hjn : (j : Int) < (n : Int) := by omega
      have hj0 : 0 ≤ (j : Int) := by omega
      clear hA hB hA0 hBB0 hbs hbs' hx hy
      go_wp2_with fail
      go_quiet (fail)
      go_wp2
      go_roundw
      case rel => exact ⟨j + 1, by omega, by go_num, below_drewN hb _⟩
      case measure => simp [intOf]; omega
    · go_wp2
      go_ret
      exact ⟨rfl, hB0.trans (hb.mono hB0.size)⟩

/-! ### New -/
theorem mk48 : madeCells (Value.int .u8 0).cells (48 * 1) = (bvs row0).toArray := by kernel_rfl
set_option maxRecDepth 100000 in
set_option maxHeartbeats 2000000 in
theorem rnew_ (n : Nat) (w : World) (h1 : 10 ≤ n) (h2 : n ≤ 256) : Calls Try.prog 12 #[.int .i64 (n : Int)] w fun e w' => ∃ A c, e = .returned (.tuple #[.agg #[.slice A (n - 9) c, .int .i64 0], .bool true]) ∧ Pls w' (fun q => w.heap.size ≤ q) A (n - 9) (rowsOf zeroP (n - 9)) ∧ n - 9 ≤ c ∧ c ≤ maxLen ∧ Below w.heap.size w w' := by
  obtain ⟨iu, hiu, huz0, huz1, huz2⟩ := info_parts info_bytes
  obtain ⟨i0, hi0, hz0, hz1, hz2⟩ := info_parts info_u8
  have Hu1 := Lib.hid huz1
  have Hu2 := Lib.hid huz2
  clear huz1 huz2
  have hF0 : Fill w ((w.alloc (mdO (.slice none 0 0) 0)).alloc (mdO (.slice none 0 0) 0)) w.heap.size (w.heap.size + 1) 0 (.slice none 0 0) 0 (rowsOf zeroP 0) :=
    ⟨Blk.new _ _ _ (by simp), (Blk.new w _ _ rfl).alloc _, ⟨[], own_nil _ _ _ _, PC.nil⟩, Nat.lt_succ_self _, Nat.le_refl _⟩
  have hB0 : Below w.heap.size w ((w.alloc (mdO (.slice none 0 0) 0)).alloc (mdO (.slice none 0 0) 0)) := by go_grown
  have hn9 : ¬ (n : Int) ≤ 9 := by omega
  go_enter Try.func12, Try.ntmps12
  go_wp2_with fail
  generalize (w.alloc (mdO (.slice none 0 0) 0)).alloc (mdO (.slice none 0 0) 0) = w1 at *
  go_loopw [5] (fun iv wr => ∃ (j : Nat) (v : Value), j ≤ n - 9 ∧ iv = .int .i64 ((9 + j : Nat) : Int) ∧ Fill w wr w.heap.size (w.heap.size + 1) 0 v j (rowsOf zeroP j) ∧ Below w.heap.size w wr) (fun iv _ => 300 - (intOf iv).toNat)
  case atStart => exact ⟨0, _, Nat.zero_le _, rfl, hF0, hB0⟩
  case round =>
    obtain ⟨j, v, hj, rfl, hF, hB⟩ := hrel
    clear hF0 hB0
    have hz := hB.size
    obtain ⟨cs, hown, hP⟩ := hF.own
    obtain ⟨A2, c2, rfl, hc2, hm2, ha2⟩ := own_form hown
    have c0 := hF.self.cell (j := 0) (u := .slice A2 j c2) rfl
    have f0 := hF.self.free 0
    have hql := hF.self.lt
    by_cases hlt : j < n - 9
    · have hil : ((9 + j : Nat) : Int) < (n : Int) := by omega
      go_wp2_with fail
      refine wp_region_noPanic ?_
      refine wp_region_held_drew (S := fun _ => True) (by kernel_rfl) trivial (fun _ => ?_)
      refine wpAnyH_take (i := 0) (oi := _) (v := ?_) rfl (by kernel_rfl) (by kernel_rfl) (by kernel_rfl) (fun _ _ _ h => h) (Or.inl ⟨by rfl, ?_⟩) trivial ?_
      rotate_left
      · (intro w _; go_simp; (first | done | rfl))
      try simp only [Act.put, List.setIfInBounds_toArray, List.set_cons_zero, List.set_cons_succ]
      refine wpAnyH_ready (rs := [1, 2]) (by kernel_rfl) (by simp) (AllReadyH.cons (o := _) rfl (fun K hK => ?wa) (AllReadyH.cons (o := _) rfl (fun K hK => ?wb) AllReadyH.nil))
      case' wa =>
        go_simp
        refine hK.out _ _ trivial (fun _ => ?_)
        clear hK K
        try simp only [Act.put, List.setIfInBounds_toArray, List.set_cons_zero, List.set_cons_succ]
        refine wpAnyH_ready (rs := [2]) (by kernel_rfl) (by simp) (AllReadyH.cons (o := _) rfl (fun K hK => ?_) AllReadyH.nil)
        go_simp
        refine upon_make _ 36 5 i0 _ 1 1 Try.underlying36 hi0 hz0 hz1 hz2 .i64 .i64 _ _ 48 rfl rfl (by decide) (by decide) ?_
        intro w7 hk7 hb7 hs7
        clear hs7
        have hb7' : Below wr.heap.size wr w7 := ⟨hb7.os, hb7.tape, hb7.output, hb7.size, hb7.block⟩
        have hF7 := hF.below hb7'
        have c7 := hF7.self.cell (j := 0) (u := .slice A2 j c2) rfl
        have c7b : ∀ o, (w7.alloc o).cell? ⟨w.heap.size + 1, 0, none⟩ = some (.slice A2 j c2) := fun o => (hF7.self.alloc o).cell (j := 0) rfl
        refine hK.out _ _ trivial (fun _ => ?_)
        clear hK K
        try simp only [Act.put, List.setIfInBounds_toArray, List.set_cons_zero, List.set_cons_succ]
        refine wpAnyH_ready (rs := [3]) (by kernel_rfl) (by simp) (AllReadyH.cons (o := _) rfl (fun K hK => ?_) AllReadyH.nil)
        go_simp
        refine hK.out _ _ trivial (fun _ => ?_)
        clear hK K
        try simp only [Act.put, List.setIfInBounds_toArray, List.set_cons_zero, List.set_cons_succ]
      case' wb =>
        go_simp
        refine upon_make _ 36 5 i0 _ 1 1 Try.underlying36 hi0 hz0 hz1 hz2 .i64 .i64 _ _ 48 rfl rfl (by decide) (by decide) ?_
        intro w7 hk7 hb7 hs7
        clear hs7
        have hb7' : Below wr.heap.size wr w7 := ⟨hb7.os, hb7.tape, hb7.output, hb7.size, hb7.block⟩
        have hF7 := hF.below hb7'
        have c7 := hF7.self.cell (j := 0) (u := .slice A2 j c2) rfl
        have c7b : ∀ o, (w7.alloc o).cell? ⟨w.heap.size + 1, 0, none⟩ = some (.slice A2 j c2) := fun o => (hF7.self.alloc o).cell (j := 0) rfl
        refine hK.out _ _ trivial (fun _ => ?_)
        clear hK K
        try simp only [Act.put, List.setIfInBounds_toArray, List.set_cons_zero, List.set_cons_succ]
        refine wpAnyH_ready (rs := [1, 3]) (by kernel_rfl) (by simp) (AllReadyH.cons (o := _) rfl (fun K hK => ?wc) (AllReadyH.cons (o := _) rfl (fun K hK => ?wd) AllReadyH.nil))
        case' wc =>
          go_simp
          refine hK.out _ _ trivial (fun _ => ?_)
          clear hK K
          try simp only [Act.put, List.setIfInBounds_toArray, List.set_cons_zero, List.set_cons_succ]
          refine wpAnyH_ready (rs := [3]) (by kernel_rfl) (by simp) (AllReadyH.cons (o := _) rfl (fun K hK => ?_) AllReadyH.nil)
          go_simp
          refine hK.out _ _ trivial (fun _ => ?_)
          clear hK K
          try simp only [Act.put, List.setIfInBounds_toArray, List.set_cons_zero, List.set_cons_succ]
        case' wd =>
          go_simp
          refine hK.out _ _ trivial (fun _ => ?_)
          clear hK K
          try simp only [Act.put, List.setIfInBounds_toArray, List.set_cons_zero, List.set_cons_succ]
          refine wpAnyH_ready (rs := [1]) (by kernel_rfl) (by simp) (AllReadyH.cons (o := _) rfl (fun K hK => ?_) AllReadyH.nil)
          go_simp
          refine hK.out _ _ trivial (fun _ => ?_)
          clear hK K
          try simp only [Act.put, List.setIfInBounds_toArray, List.set_cons_zero, List.set_cons_succ]
      all_goals
        obtain ⟨cs7, hown7, hP7⟩ := hF7.own
        refine wpAnyH_ready (rs := [4]) (by kernel_rfl) (by simp) (AllReadyH.cons (o := _) rfl (fun K hK => ?_) AllReadyH.nil)
        refine step_app _ rfl (.tmp 16) (.tmp 18) _ rfl (w.heap.size + 1 + 1) 36 iu (.slice none 0 0) 1 24 Try.underlying28 hiu huz0 Hu1.out Hu2.out rfl Nat.one_pos (.slice A2 j c2) j cs7 rfl (hown7.alloc _) _ 1 1 _ rfl (fun h => by cases h) (Rd.new w7 #[.slice (some ⟨wr.heap.size, 0, none⟩) 48 48] 36 (0, 0) (sz := 1) (n := 1) rfl) (by simp [Value.oneCell']) (by unfold maxLen; omega) (by omega) (by have := hF7.self.lt; simp; omega) ?_
        intro v8 w8 hown8 hg8 hat8
        obtain ⟨A8, c8, rfl, hc8, hm8, ha8⟩ := own_form hown8
        have hd8 : Blk w8 (w.heap.size + 1) 30 _ := (hF7.self.alloc (.cells #[.slice (some ⟨wr.heap.size, 0, none⟩) 48 48] 36)).grown hg8 (by intro e; have := (hown7.lt _ e.symm).1; omega)
        have c8' := hd8.cell (j := 0) (u := .slice A2 j c2) rfl
        have f8' := hd8.free 0
        refine hK.out _ _ trivial (fun _ => ?_)
        clear hK K
        try simp only [Act.put, List.setIfInBounds_toArray, List.set_cons_zero, List.set_cons_succ]
        refine wpAnyH_take (i := 5) (oi := _) (v := ?_) rfl (by kernel_rfl) (by kernel_rfl) (by kernel_rfl) (fun _ _ _ h => h) (Or.inl ⟨by rfl, ?_⟩) trivial ?_
        rotate_left
        · (intro w _; go_simp; (first | done | rfl))
        try simp only [Act.put, List.setIfInBounds_toArray, List.set_cons_zero, List.set_cons_succ]
        refine wpAnyH_ready (rs := [6]) (by kernel_rfl) (by simp) (AllReadyH.cons (o := _) rfl (fun K hK => ?_) AllReadyH.nil)
        go_simp
        refine hK.out _ _ trivial (fun _ => ?_)
        clear hK K
        try simp only [Act.put, List.setIfInBounds_toArray, List.set_cons_zero, List.set_cons_succ]
        refine wpAnyH_done (by kernel_rfl) ?_ _
        refine NoPanic.normal ?_
      all_goals
        rw [mk48] at hk7
        have hbs7 : Bs w7 (some ⟨wr.heap.size, 0, none⟩) 48 row0 := bs_blk hk7
        have hrow : ∀ p, (Value.slice A2 j c2).ownBlock = some p → p < wr.heap.size := fun p hp => (hown.lt p hp).2
        have hF8 := hF7.more (x := row0) hbs7 (fun e => by cases e) (Nat.le_refl 48) (by unfold maxLen; omega) (fun a ha _ => by
          injection ha with ha
          subst ha
          exact ⟨by simp only; omega, fun e => by have := hrow _ e.symm; simp only at this; omega⟩) hg8 hown7 hP7 hown8 hat8
        have hB7 : Below w.heap.size w w7 := hB.trans (hb7'.mono hz)
        have hB8 : Below w.heap.size w (w8.setCell ⟨w.heap.size + 1, 0, none⟩ (.slice A8 (j + 1) c8)) :=
          ((hB7.alloc hB7.size (.cells #[.slice (some ⟨wr.heap.size, 0, none⟩) 48 48] 36)).grown hg8 (by simp; have := hB7.size; omega) (fun p hp => by have := (hown7.lt p hp).1; omega)).grown (grown_setCell w8 ⟨w.heap.size + 1, 0, none⟩ (.slice A8 (j + 1) c8)) (by have := hg8.size; simp at this; have := hB7.size; omega) (fun p hp => by injection hp with hp; simp only at hp; omega)
        rw [show rowsOf zeroP j ++ [row0] = rowsOf zeroP (j + 1) from (rowsOf_succ zeroP j).symm] at hF8
        clear hF hF7 hk7 hb7 hb7' hg8 hown8 hat8 hd8 c8' f8' c7 c7b c0 f0 hbs7 hown hP hown7 hP7 hB7
        generalize (w8.setCell ⟨w.heap.size + 1, 0, none⟩ (.slice A8 (j + 1) c8)) = w9 at *
        go_wp2
        go_roundw
        case rel => exact ⟨j + 1, _, by omega, by go_num, hF8, hB8⟩
        case measure => simp [intOf]; omega
    · have hnl : ¬ ((9 + j : Nat) : Int) < (n : Int) := by omega
      obtain rfl : j = n - 9 := by omega
      have c1 := hF.self.cell (j := 1) (u := .int .i64 (0 : Nat)) rfl
      have r0 := hF.res.cell (j := 0) (u := .slice none 0 0) rfl
      have r1 := hF.res.cell (j := 1) (u := .int .i64 (0 : Nat)) rfl
      have g0 := hF.res.free 0
      have g1 := hF.res.free 1
      have hlr := hF.res.lt
      clear hown hP
      go_wp2
      refine bodyPost_ret (results_md2 rfl rfl (hF.res.set2 (.slice A2 (n - 9) c2) (.int .i64 (0 : Nat)))) rfl ?_
      have hset := grown2 wr w.heap.size (.slice A2 (n - 9) c2) (.int .i64 (0 : Nat))
      have hp := (hF.pls (rowsOf_length _ _).symm).grown hset (fun q hq e => by injection e with e; omega)
      exact ⟨A2, c2, rfl, hp.mono fun q _ hq => by omega, by omega, hm2, hB.grown hset hz (fun k e => by injection e with e; omega)⟩
end Go.Proofs.Ytlpbdnncbinbmaa
