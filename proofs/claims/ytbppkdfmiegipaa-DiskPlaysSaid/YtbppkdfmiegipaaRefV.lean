/- The document's disk: Write. -/
import Derived.Test.YtbppkdfmiegipaaRefW
namespace Go.Proofs.Ytbppkdfmiegipaa
open Go.RowKit Go.Maps

section
variable (G : RG) (s : DS)
set_option maxRecDepth 100000 in
theorem rwrite_bad (i : Int) (A : Option Addr) (n c : Nat) (w : World) (h : Rk w G s) (hb : ¬ s.has i ∨ 64 < n) :
    Calls Try.prog 13 #[.pointer (some ⟨G.rb, 0, none⟩), .int .i64 i, .slice A n c] w fun e w' => e = .returned (.int .i64 1) ∧ w = w' := by
  have c0 := h.self.cell (j := 0) (u := .slice (some ⟨G.pb, 0, none⟩) s.n G.pc) rfl
  by_cases h0 : i < 0
  · clear hb
    go_enter Try.func13, Try.ntmps13
    go_wp2
    go_ret
    exact ⟨rfl, rfl⟩
  · have h0' : 0 ≤ i := by omega
    by_cases h1 : (s.n : Int) ≤ i
    · clear hb h0
      go_enter Try.func13, Try.ntmps13
      go_wp2
      go_ret
      exact ⟨rfl, rfl⟩
    · have h2 : (64 : Int) < (n : Int) := by
        have : s.has i := ⟨h0', by omega⟩
        rcases hb with h | h
        · exact absurd this h
        · omega
      have h1' : i < (s.n : Int) := by omega
      clear hb h0 h1
      go_enter Try.func13, Try.ntmps13
      go_wp2
      go_ret
      exact ⟨rfl, rfl⟩
set_option maxRecDepth 100000 in
theorem rwrite_down (i : Nat) (A : Option Addr) (n c : Nat) (w : World) (h : Rk w G s) (hi : i < s.n) (hn : n ≤ 64) (ho : s.step.on = false) :
    Calls Try.prog 13 #[.pointer (some ⟨G.rb, 0, none⟩), .int .i64 (i : Int), .slice A n c] w fun e w' => e = .returned (.int .i64 8) ∧ Rk w' G s.step ∧ Tn G.lo (G.rb + 1) w w' := by
  have c0 := h.self.cell (j := 0) (u := .slice (some ⟨G.pb, 0, none⟩) s.n G.pc) rfl
  have Ho := Lib.hid ho
  have hil : (i : Int) < (s.n : Int) := by omega
  have hn' : (n : Int) ≤ 64 := by omega
  have ha := h.apart.p
  clear ho
  go_enter Try.func13, Try.ntmps13
  go_wp2_with fail
  refine (rstep_ G s w h).mono ?_
  rw [Ho.out]
  rintro e w1 ⟨rfl, h1, ht1⟩
  go_wp2
  go_ret
  exact ⟨rfl, h1, ht1.wide (by omega) (Nat.le_refl _)⟩
set_option maxRecDepth 100000 in
set_option maxHeartbeats 2000000 in
theorem rwrite_ok (i : Nat) (A : Option Addr) (n c : Nat) (xs : List UInt8) (w : World) (h : Rk w G s) (hx : Bs w A n xs) (hA : A = none → n = 0 ∧ c = 0) (hi : i < s.n) (hn : n ≤ 64) (hX : ∀ a, A = some a → 0 < n → a.block < G.lo ∨ G.rb < a.block) (ho : s.step.on = true) :
    Calls Try.prog 13 #[.pointer (some ⟨G.rb, 0, none⟩), .int .i64 (i : Int), .slice A n c] w fun e w' => e = .returned (.int .i64 0) ∧ Rk w' G { s.step with cache := put s.cache i (some (pad xs)) } ∧ Tn G.lo (G.rb + 1) w w' := by
  have c0 := h.self.cell (j := 0) (u := .slice (some ⟨G.pb, 0, none⟩) s.n G.pc) rfl
  obtain ⟨i0, hi0, hz0, hz1, hz2⟩ := info_parts info_u8
  have Hz := Lib.hid hz2
  have Ho := Lib.hid ho
  have hil : (i : Int) < (s.n : Int) := by omega
  have hi0' : 0 ≤ (i : Int) := by omega
  have hn' : (n : Int) ≤ 64 := by omega
  have hap := h.apart
  have hsub : IntKind.i64.wrap ((64 : Int) - (n : Int)) = ((64 - n : Nat) : Int) := by rw [IntKind.wrap_i64]; omega
  have Hsub := Lib.hid hsub
  have Hn := Lib.hid hx.len
  clear ho hz2 hsub
  go_enter Try.func13, Try.ntmps13
  go_wp2_with fail
  refine (rstep_ G s w h).mono ?_
  rw [Ho.out]
  rintro e w1 ⟨rfl, h1, ht1⟩
  have htw : Tn G.lo (G.rb + 1) w w1 := ht1.wide (by have := hap.p; omega) (Nat.le_refl _)
  have hx1 : Bs w1 A n xs := ht1.bs hx fun a ha h0 => by have := hX a ha h0; have := hap.p; omega
  have hn1 := step_n s
  have hc1 := step_cache s
  have Hc1 := Lib.hid hc1
  rw [← hn1] at hil hi
  clear h ht1 Ho hn1 hc1 c0
  have d1 := h1.self.cell (j := 1) (u := .slice (some ⟨G.cb, 0, none⟩) s.step.n G.cc) rfl
  have hl1 := h1.lt
  go_wp2_with fail
  go_region_held3 (fun w' => w'.cell? ⟨G.rb, 1, none⟩ = some (.slice (some ⟨G.cb, 0, none⟩) s.step.n G.cc))
    (first
      | exact d1
      | exact d2
      | exact d3
      | exact cell_far d3 (by have := hap.c; omega))
    (first
      | (refine step_app _ rfl (.const (.slice none 0 0)) (.tmp 31) _ rfl w1.heap.size 5 i0 (.int .u8 0) 1 1 Try.underlying34 hi0 hz0 hz1 Hz.out rfl Nat.one_pos (.slice none 0 0) 0 [] rfl (own_nil _ _ _ _) A n c _ rfl (fun h => (hA h).1) (show Bs w1.drew A n xs from hx1) (bvs_one _) (by unfold maxLen; omega) (by omega) (Nat.le_refl _) ?_
         intro v2 w2 hown2 hg2 hat2
         rw [Nat.zero_add, List.nil_append] at hown2
         have hb2 : Below w1.heap.size w1 w2 := ⟨hg2.os, hg2.tape, hg2.output, hg2.size, fun k hk => hg2.block k hk (by simp [Value.ownBlock])⟩
         have d2 := (hb2.cell (show (⟨G.rb, 1, none⟩ : Addr).block < w1.heap.size from hl1)).trans d1)
      | (refine step_app_zeros _ rfl (.tmp 32) (.tmp 35) _ _ rfl w1.heap.size 5 i0 (.int .u8 0) 1 .i64 .i64 Try.underlying34 Try.underlying3 hi0 hz0 hz1 Hz.out rfl rfl v2 n _ rfl hown2 _ (64 - n) rfl Hsub.out (by unfold maxLen; omega) (by omega) hb2.size ?_
         intro v3 w3 hown3 hg3 hat3
         rw [show n + (64 - n) = 64 by omega] at hown3
         obtain ⟨A3, c3, rfl, hc3, hm3, ha3⟩ := own_form hown3
         have hb3 : Below w1.heap.size w1 w3 := hb2.trans (grown_below hg3 hb2.size (fun j hj => (hown2.lt j hj).1))
         have d3 := (hb3.cell (show (⟨G.rb, 1, none⟩ : Addr).block < w1.heap.size from hl1)).trans d1
         have h3 := h1.below hb3
         obtain ⟨Aq, mq, cq, q1, q2, _⟩ := h3.cache i hi))
  have hown4 : w3.ownsRow w1.heap.size 5 1 (.slice A3 64 c3) 64 (bvs (pad xs)) := by
    have e : bvs xs ++ List.replicate (64 - n) (.int .u8 0) = bvs (pad xs) := by
      rw [Hn.out]
      unfold pad
      rw [bvs_append]
      congr 1
      unfold bvs
      rw [List.map_replicate]
      rfl
    rw [e] at hown3
    exact hown3
  have hsec : Sec w3 G (.slice A3 64 c3) (pad xs) := by
    have hbs := bs_own hown4
    rcases hown4.2 with ⟨e, _⟩ | ⟨gg, cap, cur, hv, hbg, _⟩
    · injection e with _ e _; cases e
    · injection hv with hv _ _
      subst hv
      have := hap.p
      have := hap.c
      have := hap.q
      exact ⟨gg, c3, rfl, hc3, by unfold maxLen at hm3; exact hm3, hbs, by omega, by omega, by omega, by omega, by omega⟩
  have hput := h3.put hi hsec
  have b2 := cell_far (b := G.cb) (i := i) (u := .slice A3 64 c3) (h3.self.cell (j := 2) (u := .slice (some ⟨G.qb, 0, none⟩) s.step.n s.step.n) rfl) (by have := hap.c; omega)
  have bq := cell_far (b := G.cb) (i := i) (u := .slice A3 64 c3) (h3.cached i hi).1 hap.cq
  have fq := free_set (b := G.cb) (i := i) (u := .slice A3 64 c3) (h3.cached i hi).2
  have hT3 : Tn G.lo (G.rb + 1) w w3 := htw.trans (Tn.ofBelow hb3 (Nat.le_refl _))
  have ht4 : Tn G.lo (G.rb + 1) w3 (w3.setCell ⟨G.cb, i, none⟩ (.slice A3 64 c3)) := Tn.set _ _ _ (by have := hap.c; omega) (by have := hap.c; omega)
  have hl3 := h3.lt
  have hl4 : G.rb < (w3.setCell ⟨G.cb, i, none⟩ (.slice A3 64 c3)).heap.size := Nat.lt_of_lt_of_le hl3 ht4.size
  clear hown3 hown4 hown2 h1 h3 d1 d2 d3 hg2 hg3 hb2 hb3 hsec q1 q2 hx1
  generalize w3.setCell ⟨G.cb, i, none⟩ (.slice A3 64 c3) = w4 at *
  go_wp2
  go_ret
  rw [← Hc1.out]
  exact ⟨rfl, hput, (hT3.trans ht4).trans (Tn.set _ _ _ (by have := hap.q; omega) (by have := hap.q; omega))⟩

/-- Write. -/
theorem rwrite_ (i : Int) (A : Option Addr) (n c : Nat) (xs : List UInt8) (w : World) (h : Rk w G s) (hx : Bs w A n xs) (hA : A = none → n = 0 ∧ c = 0) (hX : ∀ a, A = some a → 0 < n → a.block < G.lo ∨ G.rb < a.block) :
    Calls Try.prog 13 #[.pointer (some ⟨G.rb, 0, none⟩), .int .i64 i, .slice A n c] w fun e w' => e = .returned (.int .i64 ((s.write i xs).1 : Int)) ∧ Rk w' G (s.write i xs).2 ∧ Tn G.lo (G.rb + 1) w w' := by
  have hn := hx.len
  unfold DS.write
  by_cases hb : ¬ s.has i ∨ 64 < xs.length
  · rw [if_pos hb]
    refine (rwrite_bad G s i A n c w h (by rw [hn]; exact hb)).mono ?_
    rintro e w' ⟨rfl, rfl⟩
    exact ⟨rfl, h, Tn.refl _ _ _⟩
  · rw [if_neg hb]
    have hh : s.has i := Classical.byContradiction fun h => hb (.inl h)
    have h64 : n ≤ 64 := by rw [hn]; exact Nat.le_of_not_lt fun h => hb (.inr h)
    obtain ⟨k, rfl⟩ := Int.eq_ofNat_of_zero_le hh.1
    cases ho : s.step.on with
    | true =>
      rw [if_pos rfl]
      exact rwrite_ok G s k A n c xs w h hx hA (by have := hh.2; omega) h64 hX ho
    | false =>
      rw [if_neg (by simp)]
      exact rwrite_down G s k A n c w h (by have := hh.2; omega) h64 ho
end
end Go.Proofs.Ytbppkdfmiegipaa
