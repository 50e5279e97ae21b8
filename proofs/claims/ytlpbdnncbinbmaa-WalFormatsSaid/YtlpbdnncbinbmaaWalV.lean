/- Proves WalFormats of layer 4 (the log), for every input, with no condition: a log is laid on every disk of at least 10 sectors, and on no other one; what is not laid is not opened, and behind a loss of power within Format nothing is there, or an empty log. -/
import Derived.Test.YtlpbdnncbinbmaaWalU
import Derived.Test.YtlpbdnncbinbmaaWalS
import Derived.StillTail
namespace Go.Proofs.Ytlpbdnncbinbmaa
open Go.ChangeShapes Go.WideShapes Go.ChangeAt Go.RowKit Go.Maps

set_option maxRecDepth 100000 in
set_option maxHeartbeats 4000000 in
theorem walFormats_walk (z f : Int) (B : Option Addr) (m d : Nat) (ks : List Bool) (w : World) (hf : -9223372036854775808 ≤ f ∧ f ≤ 9223372036854775807) (hk : Bls w B m ks) (hm : m ≤ 9223372036854775807) :
    Calls Try.prog 6 #[.int .i64 z, .int .i64 f, .slice B m d] w fun e w' => e = .returned (.bool true) ∧ Below w.heap.size w w' := by
  by_cases hz : 1 ≤ z ∧ z ≤ 256
  · obtain ⟨n, rfl⟩ : ∃ n : Nat, z = (n : Int) := ⟨z.toNat, by omega⟩
    have hn1 : 0 < n := by omega
    have hn2 : n ≤ 256 := by omega
    have hkb := rd_block hk
    go_enter Try.func6, Try.ntmps6
    go_wp2_with fail
    refine (new_ n w hn1 hn2).mono ?_
    rintro e w1 ⟨g, rfl, hg, hd1, hb1⟩
    have hz1 := hb1.size
    by_cases hs : n < 10
    · have hs' : (n : Int) < 10 := by omega
      go_wp2_with (first
        | (refine (open_small g _ w1 hd1 hs).mono ?_; rintro e w' ⟨rfl, rfl⟩)
        | (refine (format_small g _ w1 hd1 hs).mono ?_; rintro e w' ⟨rfl, rfl⟩)
        | (refine (alive_ w1).mono ?_; rintro e w2 ⟨rfl, hb2⟩)
        | fail)
      go_ret
      exact ⟨rfl, hb1.trans (hb2.mono hz1)⟩
    · have hs' : ¬ (n : Int) < 10 := by omega
      go_wp2_with fail
      refine (open_form g _ w1 hd1 (show 10 ≤ n by omega) (bare_fresh n)).mono ?_
      rintro e w2 ⟨rfl, hb2⟩
      have hd2 := hd1.below hb2
      have hB2 := hb1.trans (hb2.mono hz1)
      have hk2 : Bls w2 B m ks := Rd.below (Rd.below hk hb1) hb2
      go_wp2_with fail
      refine (arm_ g _ w2 f hd2 hf).mono ?_
      rintro e w3 ⟨rfl, hd3, ht3⟩
      have hgl := hd2.lt
      have ht3' := ht3.wide (show g ≤ g + 2 by omega) (Nat.le_refl _)
      have hB3 := hB2.trans (ht3'.below (by omega) (by omega))
      have hk3 : Bls w3 B m ks := ht3'.rd hk2 fun a ha h0 => .inl (by have := hkb a ha h0; omega)
      have hbare : Bare ((DS.fresh n).arm f) := ⟨arm_up (bare_fresh n).up f, (bare_fresh n).head0, (bare_fresh n).head1⟩
      have hnn : ((DS.fresh n).arm f).n = n := rfl
      have hff : ((DS.fresh n).arm f).fuse = f := rfl
      clear hd1 hd2 hb1 hb2 ht3 ht3' hk2
      generalize (DS.fresh n).arm f = s3 at *
      go_wp2_with fail
      refine (format_ g s3 w3 hd3 (by omega) hbare).mono ?_
      rintro e w4 ⟨s4, hd4, hfz4, ht4, hF⟩
      have hgl3 := hd3.lt
      have hB4 := hB3.trans (ht4.below (by omega) (by omega))
      have hk4 : Bls w4 B m ks := ht4.rd hk3 fun a ha h0 => .inl (by have := hkb a ha h0; omega)
      have hn4 : s4.n = n := hfz4.n.trans hnn
      clear hk3 ht4 hbare
      obtain ⟨t', ht', rfl, hst⟩ | ⟨rfl, hfu, hoff, hQ⟩ := hF
      · have hJ : Jn (again s4 ks).plate (again s4 ks).n t' 0 zeroP := by
          show Jn (s4.woken ks) s4.n _ _ _
          rw [hst.up.woken]; exact hst.jn
        go_wp2_with fail
        refine (cut_ g s4 w4 hd4).mono ?_
        rintro e w5 ⟨rfl, hd5, ht5⟩
        have ht5' := ht5.wide (show g ≤ g + 2 by omega) (Nat.le_refl _)
        have hB5 := hB4.trans (ht5'.below (by omega) (by have := hB4.size; omega))
        have hk5 : Bls w5 B m ks := ht5'.rd hk4 fun a ha h0 => .inl (by have := hkb a ha h0; omega)
        go_wp2_with fail
        refine (start_ g s4.cut B m d ks w5 hd5 hk5 hm (fun a ha h0 => .inl (by have := hkb a ha h0; omega))).mono ?_
        rw [cut_start]
        rintro e w6 ⟨rfl, hd6, ht6⟩
        have hd6 : Dk w6 g (again s4 ks) := hd6
        have hB6 := hB5.trans (ht6.below (by omega) (by have := hB5.size; omega))
        have hup6 := again_up s4 ks
        have hn6 : (again s4 ks).n = n := hn4
        have hf6 : (again s4 ks).fuse = -1 := rfl
        generalize again s4 ks = s6 at *
        go_wp2_with fail
        refine (open_log g s6 t' 0 zeroP w6 hd6 (by omega) hup6 hJ (by unfold topN; omega) (by decide)).mono ?_
        rintro e w7 ⟨s7, hd7, hfz7, ht7, hO⟩
        have hB7 := hB6.trans (ht7.below (by omega) (by have := hB6.size; omega))
        have hn7 : s7.n = n := hfz7.n.trans hn6
        have hz7 := hB7.size
        obtain ⟨b, t7, hle, hle7, rfl, hb7, hst7, hL7⟩ | ⟨_, hfx, _⟩ := hO
        · have hbl := hL7.blt
          have hblt := hL7.lt
          go_wp2_with fail
          refine (rnew_ n w7 (by omega) hn2).mono ?_
          rintro e w8 ⟨A8, c8, rfl, hp8, hc8, hm8, hb8⟩
          have hq8 : Blk (w8.alloc (mdO (.slice A8 (n - 9) c8) 0)) w8.heap.size 30 (mdC (.slice A8 (n - 9) c8) 0) := Blk.new w8 _ _ rfl
          have hz8 := hb8.size
          have hB9 : Below w.heap.size w (w8.alloc (mdO (.slice A8 (n - 9) c8) 0)) := (hB7.trans (hb8.mono hz7)).alloc (by omega) _
          have hL9 := (hL7.below hb8).alloc (mdO (.slice A8 (n - 9) c8) 0)
          have hp9 := hp8.below ((Below.refl w8.heap.size w8).alloc (Nat.le_refl _) (mdO (.slice A8 (n - 9) c8) 0))
          have hz9 : w8.heap.size + 1 = (w8.alloc (mdO (.slice A8 (n - 9) c8) 0)).heap.size := by simp
          clear hp8 hb8 hL7 hd7 hd6 hd5 hd4 hd3
          go_wp2_with fail
          generalize (w8.alloc (mdO (.slice A8 (n - 9) c8) 0)) = w9 at *
          have q0 := hq8.cell (j := 0) (u := .slice A8 (n - 9) c8) rfl
          have q1 := hq8.cell (j := 1) (u := .int .i64 (0 : Int)) rfl
          have htold := told_ g b s7 t7 0 zeroP w9.drew (hL9.below ((Below.refl _ _).drew)) hst7 (by unfold topN; omega) (by decide)
          rw [hn7] at htold
          go_region_held3 (fun w' => w'.cell? ⟨w8.heap.size, 0, none⟩ = some (.slice A8 (n - 9) c8) ∧ w'.cell? ⟨w8.heap.size, 1, none⟩ = some (.int .i64 (0 : Int)))
            (first | go_keep | exact ⟨q0, q1⟩ | exact ⟨ht10.cell q0 (.inr (by show b + 1 ≤ w8.heap.size; omega)), ht10.cell q1 (.inr (by show b + 1 ≤ w8.heap.size; omega))⟩ | exact ⟨(hb11.cell (show w8.heap.size < w10.heap.size from hl10)).trans (ht10.cell q0 (.inr (by show b + 1 ≤ w8.heap.size; omega))), (hb11.cell (show w8.heap.size < w10.heap.size from hl10)).trans (ht10.cell q1 (.inr (by show b + 1 ≤ w8.heap.size; omega)))⟩ | exact ⟨(hb12.cell (show w8.heap.size < w11.heap.size by have := hb11.size; omega)).trans ((hb11.cell (show w8.heap.size < w10.heap.size from hl10)).trans (ht10.cell q0 (.inr (by show b + 1 ≤ w8.heap.size; omega)))), (hb12.cell (show w8.heap.size < w11.heap.size by have := hb11.size; omega)).trans ((hb11.cell (show w8.heap.size < w10.heap.size from hl10)).trans (ht10.cell q1 (.inr (by show b + 1 ≤ w8.heap.size; omega))))⟩)
            (first
              | (go_at_call 19; refine htold.mono ?_; rintro e w10 ⟨A10, c10, rfl, hp10, hc10, hm10, hL10, ht10⟩
                 have hl10 : w8.heap.size < w10.heap.size := by have := ht10.size; simp at this; omega)
              | (go_at_call 18
                 refine (same_ _ _ A10 A8 (n - 9) c10 c8 0 _ w10 hp10 ((hp9.below ((Below.refl _ _).drew)).tl (Tl.log (g := g) ht10) (fun q hq => by omega)) (by omega)).mono ?_
                 rintro e w11 ⟨rfl, hb11⟩)
              | (go_at_call 13; refine (alive_ _).mono ?_; rintro e w12 ⟨rfl, hb12⟩))
          have hB10 : Below w.heap.size w w10 := hB9.trans (ht10.drew.below (by omega) (by omega))
          have hB11 := hB10.trans (hb11.mono hB10.size)
          have hB12 := hB11.trans (hb12.mono hB11.size)
          go_wp2
          go_ret
          exact ⟨rfl, hB12⟩
        · omega
      · have hf0 : ¬ f < 0 := by omega
        have hQk : ((hdOf ((again s4 ks).plate 0)).1 = 0 ∧ (hdOf ((again s4 ks).plate 1)).1 = 0) ∨ ∃ t', t' ≤ 2 ∧ Jn (again s4 ks).plate s3.n t' 0 zeroP := hQ ks
        go_wp2_with fail
        refine (cut_ g s4 w4 hd4).mono ?_
        rintro e w5 ⟨rfl, hd5, ht5⟩
        have ht5' := ht5.wide (show g ≤ g + 2 by omega) (Nat.le_refl _)
        have hB5 := hB4.trans (ht5'.below (by omega) (by have := hB4.size; omega))
        have hk5 : Bls w5 B m ks := ht5'.rd hk4 fun a ha h0 => .inl (by have := hkb a ha h0; omega)
        go_wp2_with fail
        refine (start_ g s4.cut B m d ks w5 hd5 hk5 hm (fun a ha h0 => .inl (by have := hkb a ha h0; omega))).mono ?_
        rw [cut_start]
        rintro e w6 ⟨rfl, hd6, ht6⟩
        have hd6 : Dk w6 g (again s4 ks) := hd6
        have hB6 := hB5.trans (ht6.below (by omega) (by have := hB5.size; omega))
        have hup6 := again_up s4 ks
        have hn6 : (again s4 ks).n = n := hn4
        have hf6 : (again s4 ks).fuse = -1 := rfl
        rcases hQk with ⟨hq0, hq1⟩ | ⟨t', ht', hJ0⟩
        · have hbare6 : Bare (again s4 ks) := ⟨hup6, hq0, hq1⟩
          generalize again s4 ks = s6 at *
          go_wp2_with fail
          refine (open_form g s6 w6 hd6 (by omega) hbare6).mono ?_
          rintro e w7 ⟨rfl, hb7⟩
          have hB7 := hB6.trans (hb7.mono hB6.size)
          go_wp2_with fail
          refine (rnew_ n w7 (by omega) hn2).mono ?_
          rintro e w8 ⟨A8, c8, rfl, hp8, hc8, hm8, hb8⟩
          have hB8 := hB7.trans (hb8.mono hB7.size)
          have hB9 : Below w.heap.size w (w8.alloc (mdO (.slice A8 (n - 9) c8) 0)) := hB8.alloc hB8.size _
          go_wp2_with fail
          generalize (w8.alloc (mdO (.slice A8 (n - 9) c8) 0)) = w9 at *
          refine wp_region_noPanic ?_
          refine wp_region_held_drew (S := fun _ => True) (by kernel_rfl) trivial (fun _ => ?_)
          refine wpAnyH_take (i := 0) (oi := _) (v := ?_) rfl (by kernel_rfl) (by kernel_rfl) (by kernel_rfl) (fun _ _ _ h => h) (Or.inl ⟨by rfl, ?_⟩) trivial ?_
          rotate_left
          · (intro w _; go_simp; (first | done | rfl))
          try simp only [Act.put, List.setIfInBounds_toArray, List.set_cons_zero, List.set_cons_succ]
          refine wpAnyH_take (i := 1) (oi := _) (v := ?_) rfl (by kernel_rfl) (by kernel_rfl) (by kernel_rfl) (fun _ _ _ h => h) (Or.inl ⟨by rfl, ?_⟩) trivial ?_
          rotate_left
          · (intro w _; go_simp; (first | done | rfl))
          try simp only [Act.put, List.setIfInBounds_toArray, List.set_cons_zero, List.set_cons_succ]
          refine wpAnyH_take (i := 2) (oi := _) (v := ?_) rfl (by kernel_rfl) (by kernel_rfl) (by kernel_rfl) (fun _ _ _ h => h) (Or.inl ⟨by rfl, ?_⟩) trivial ?_
          rotate_left
          · (intro w _; go_simp; (first | done | rfl))
          try simp only [Act.put, List.setIfInBounds_toArray, List.set_cons_zero, List.set_cons_succ]
          refine wpAnyH_take (i := 3) (oi := _) (v := undef) rfl (by kernel_rfl) (by kernel_rfl) (by kernel_rfl) (fun _ _ _ h => h) (Or.inr ⟨by rfl, rfl⟩) trivial ?_
          try simp only [Act.put, List.setIfInBounds_toArray, List.set_cons_zero, List.set_cons_succ]
          refine wpAnyH_take (i := 5) (oi := _) (v := undef) rfl (by kernel_rfl) (by kernel_rfl) (by kernel_rfl) (fun _ _ _ h => h) (Or.inr ⟨by rfl, rfl⟩) trivial ?_
          try simp only [Act.put, List.setIfInBounds_toArray, List.set_cons_zero, List.set_cons_succ]
          refine wpAnyH_take (i := 4) (oi := _) (v := undef) rfl (by kernel_rfl) (by kernel_rfl) (by kernel_rfl) (fun _ _ _ h => h) (Or.inr ⟨by rfl, rfl⟩) trivial ?_
          try simp only [Act.put, List.setIfInBounds_toArray, List.set_cons_zero, List.set_cons_succ]
          refine wpAnyH_take (i := 6) (oi := _) (v := undef) rfl (by kernel_rfl) (by kernel_rfl) (by kernel_rfl) (fun _ _ _ h => h) (Or.inr ⟨by rfl, rfl⟩) trivial ?_
          try simp only [Act.put, List.setIfInBounds_toArray, List.set_cons_zero, List.set_cons_succ]
          refine wpAnyH_take (i := 7) (oi := _) (v := ?_) rfl (by kernel_rfl) (by kernel_rfl) (by kernel_rfl) (fun _ _ _ h => h) (Or.inl ⟨by rfl, ?_⟩) trivial ?_
          rotate_left
          · (intro w _; go_simp; (first | done | rfl))
          try simp only [Act.put, List.setIfInBounds_toArray, List.set_cons_zero, List.set_cons_succ]
          refine wpAnyH_take (i := 8) (oi := _) (v := ?_) rfl (by kernel_rfl) (by kernel_rfl) (by kernel_rfl) (fun _ _ _ h => h) (Or.inl ⟨by rfl, ?_⟩) trivial ?_
          rotate_left
          · (intro w _; go_simp; (first | done | rfl))
          try simp only [Act.put, List.setIfInBounds_toArray, List.set_cons_zero, List.set_cons_succ]
          refine wpAnyH_ready (rs := [9]) (by kernel_rfl) (by simp) (AllReadyH.cons (o := _) rfl (fun K hK => ?_) AllReadyH.nil)
          go_simp
          go_at_call 13
          refine (alive_ _).mono ?_
          rintro e w12 ⟨rfl, hb12⟩
          go_wp2_with fail
          refine hK.out _ _ trivial (fun _ => ?_)
          clear hK K
          try simp only [Act.put, List.setIfInBounds_toArray, List.set_cons_zero, List.set_cons_succ]
          refine wpAnyH_take (i := 10) (oi := _) (v := ?_) rfl (by kernel_rfl) (by kernel_rfl) (by kernel_rfl) (fun _ _ _ h => h) (Or.inl ⟨by rfl, ?_⟩) trivial ?_
          rotate_left
          · (intro w _; go_simp; (first | done | rfl))
          try simp only [Act.put, List.setIfInBounds_toArray, List.set_cons_zero, List.set_cons_succ]
          refine wpAnyH_ready (rs := [11]) (by kernel_rfl) (by simp) (AllReadyH.cons (o := _) rfl (fun K hK => ?_) AllReadyH.nil)
          go_simp
          refine hK.out _ _ trivial (fun _ => ?_)
          clear hK K
          try simp only [Act.put, List.setIfInBounds_toArray, List.set_cons_zero, List.set_cons_succ]
          refine wpAnyH_done (by kernel_rfl) ?_ _
          refine NoPanic.normal ?_
          go_wp2
          go_ret
          exact ⟨rfl, hB9.trans (Below.mono (⟨hb12.os, hb12.tape, hb12.output, hb12.size, hb12.block⟩ : Below w9.heap.size w9 w12) hB9.size)⟩
        · have hJ : Jn (again s4 ks).plate (again s4 ks).n t' 0 zeroP := by rw [hn6, ← hnn]; exact hJ0
          generalize again s4 ks = s6 at *
          go_wp2_with fail
          refine (open_log g s6 t' 0 zeroP w6 hd6 (by omega) hup6 hJ (by unfold topN; omega) (by decide)).mono ?_
          rintro e w7 ⟨s7, hd7, hfz7, ht7, hO⟩
          have hB7 := hB6.trans (ht7.below (by omega) (by have := hB6.size; omega))
          have hn7 : s7.n = n := hfz7.n.trans hn6
          have hz7 := hB7.size
          obtain ⟨b, t7, hle, hle7, rfl, hb7, hst7, hL7⟩ | ⟨_, hfx, _⟩ := hO
          · have hbl := hL7.blt
            have hblt := hL7.lt
            go_wp2_with fail
            refine (rnew_ n w7 (by omega) hn2).mono ?_
            rintro e w8 ⟨A8, c8, rfl, hp8, hc8, hm8, hb8⟩
            have hq8 : Blk (w8.alloc (mdO (.slice A8 (n - 9) c8) 0)) w8.heap.size 30 (mdC (.slice A8 (n - 9) c8) 0) := Blk.new w8 _ _ rfl
            have hz8 := hb8.size
            have hB9 : Below w.heap.size w (w8.alloc (mdO (.slice A8 (n - 9) c8) 0)) := (hB7.trans (hb8.mono hz7)).alloc (by omega) _
            have hL9 := (hL7.below hb8).alloc (mdO (.slice A8 (n - 9) c8) 0)
            have hp9 := hp8.below ((Below.refl w8.heap.size w8).alloc (Nat.le_refl _) (mdO (.slice A8 (n - 9) c8) 0))
            have hz9 : w8.heap.size + 1 = (w8.alloc (mdO (.slice A8 (n - 9) c8) 0)).heap.size := by simp
            clear hp8 hb8 hL7 hd7 hd6 hd5 hd4 hd3
            go_wp2_with fail
            generalize (w8.alloc (mdO (.slice A8 (n - 9) c8) 0)) = w9 at *
            have q0 := hq8.cell (j := 0) (u := .slice A8 (n - 9) c8) rfl
            have q1 := hq8.cell (j := 1) (u := .int .i64 (0 : Int)) rfl
            have htold := told_ g b s7 t7 0 zeroP w9.drew (hL9.below ((Below.refl _ _).drew)) hst7 (by unfold topN; omega) (by decide)
            rw [hn7] at htold
            go_region_held3 (fun w' => w'.cell? ⟨w8.heap.size, 0, none⟩ = some (.slice A8 (n - 9) c8) ∧ w'.cell? ⟨w8.heap.size, 1, none⟩ = some (.int .i64 (0 : Int)))
              (first | go_keep | exact ⟨q0, q1⟩ | exact ⟨ht10.cell q0 (.inr (by show b + 1 ≤ w8.heap.size; omega)), ht10.cell q1 (.inr (by show b + 1 ≤ w8.heap.size; omega))⟩ | exact ⟨(hb11.cell (show w8.heap.size < w10.heap.size from hl10)).trans (ht10.cell q0 (.inr (by show b + 1 ≤ w8.heap.size; omega))), (hb11.cell (show w8.heap.size < w10.heap.size from hl10)).trans (ht10.cell q1 (.inr (by show b + 1 ≤ w8.heap.size; omega)))⟩ | exact ⟨(hb12.cell (show w8.heap.size < w11.heap.size by have := hb11.size; omega)).trans ((hb11.cell (show w8.heap.size < w10.heap.size from hl10)).trans (ht10.cell q0 (.inr (by show b + 1 ≤ w8.heap.size; omega)))), (hb12.cell (show w8.heap.size < w11.heap.size by have := hb11.size; omega)).trans ((hb11.cell (show w8.heap.size < w10.heap.size from hl10)).trans (ht10.cell q1 (.inr (by show b + 1 ≤ w8.heap.size; omega))))⟩)
              (first
                | (go_at_call 19; refine htold.mono ?_; rintro e w10 ⟨A10, c10, rfl, hp10, hc10, hm10, hL10, ht10⟩
                   have hl10 : w8.heap.size < w10.heap.size := by have := ht10.size; simp at this; omega)
                | (go_at_call 18
                   refine (same_ _ _ A10 A8 (n - 9) c10 c8 0 _ w10 hp10 ((hp9.below ((Below.refl _ _).drew)).tl (Tl.log (g := g) ht10) (fun q hq => by omega)) (by omega)).mono ?_
                   rintro e w11 ⟨rfl, hb11⟩)
                | (go_at_call 13; refine (alive_ _).mono ?_; rintro e w12 ⟨rfl, hb12⟩))
            have hB10 : Below w.heap.size w w10 := hB9.trans (ht10.drew.below (by omega) (by omega))
            have hB11 := hB10.trans (hb11.mono hB10.size)
            have hB12 := hB11.trans (hb12.mono hB11.size)
            go_wp2
            go_ret
            exact ⟨rfl, hB12⟩
          · omega
  · go_enter Try.func6, Try.ntmps6
    go_wp2_with (first
      | (refine (new_bad z w hz).mono ?_; rintro e w' ⟨rfl, rfl⟩)
      | (refine (format_nil w).mono ?_; rintro e w' ⟨rfl, rfl⟩)
      | (refine (alive_ w).mono ?_; rintro e w2 ⟨rfl, hb2⟩)
      | fail)
    go_ret
    exact ⟨rfl, hb2⟩

set_option maxRecDepth 100000 in
theorem walFormats_lifted (os : Os) (started : os.Started) (H : Type) (enc : TypeId × Value → H) :
    ReturnsInHanded {} Try.checked os 6 .any (Rows.walFormatsSpec.pre6 enc Try.prog Try.f6 Rows.walFormatsRow.domain false) (Rows.walFormatsSpec.post enc Try.prog Try.f6 false true false false) := by
  refine law_lifted (C := Try.checked) (tb := 4) own_ started (by kernel_rfl) Try.func6
    (ChangeSpec.witness6 (enc := enc) (C := Try.checked) false ⟨#[], #[.int .i64 0, .int .i64 0, .slice none 0 0], []⟩ 8 (by kernel_rfl) (by kernel_rfl) (by kernel_rfl) (by kernel_rfl))
    rfl rfl Try.underlying4 laidOut_ (by kernel_rfl) (fun ds h => by match ds, h with | [_, _, _], _ => rfl) ?_
  intro W base args ds p hval0 hA0 _ hsz0
  have hval : ∀ (j : Nat) t v, Try.f6.params[j]? = some t → args[j]? = some v → Value.okWide Try.prog W .any base t v := hval0
  have hA : DataW.TrodAll enc Try.prog W 0 (fun _ => true) true Try.f6.params.toList args.toList ds p := hA0
  have hsz : (DataW.weightsEach Try.prog Try.f6.params.toList ds).all (· ≤ reachBytes) = true := hsz0
  clear hval0 hA0 hsz0
  rw [Try.params6] at hA hval hsz
  obtain ⟨v0, v1, v2, d0, d1, d2, p0, p1, p2, rfl, rfl, rfl, h0, h1, h2⟩ := trodAll_three hA
  obtain ⟨z0, rfl, hz0⟩ := arg_int _ _ Try.underlying3 (hval 0 _ v0 rfl rfl) h0 wf_i64
  obtain ⟨z1, rfl, hz1⟩ := arg_int _ _ Try.underlying3 (hval 1 _ v1 rfl rfl) h1 wf_i64
  obtain ⟨A2, n2, c2, xs2, rfl, r2, b2⟩ := arg_slice ops_bools Try.underlying35 (hval 2 _ v2 rfl rfl) h2 (weight_at hsz (j := 2) rfl rfl)
  exact walFormats_walk z0 z1 A2 n2 c2 xs2 W hz1 (bls_shp r2).1 (by have := (bls_shp r2).2.1; have := (bls_shp r2).2.2.2; omega)

/-- WalFormats, for every input: the statement as it was given. -/
theorem walFormats_holds : Rows.WalFormatsSaid :=
  OpenClaim.holds_of_wide 6 Try.f6 rfl rfl rfl rfl rfl rfl rfl ⟨rfl, rfl, rfl, rfl, rfl⟩ rfl rfl rfl rfl rfl (by kernel_rfl) Try.func6 (by kernel_rfl)
    (of_decide_eq_true (by kernel_rfl)) (by unfold Func.isWrapper; first | (rw [if_pos (by decide +kernel)]; kernel_rfl) | (rw [if_neg (by decide +kernel)]; exact ⟨rfl, rfl⟩))
    (fun os started H enc _ => walFormats_lifted os started H enc)
end Go.Proofs.Ytlpbdnncbinbmaa
