/- Layer 16: New, Send, Begin. -/
import Derived.Test.YtlmaelbalmjlbaaSesB
set_option linter.all false
namespace Go.Proofs.Ytlmaelbalmjlbaa
open Go.RowKit
namespace Ses
open Net
section
variable (w : World)
set_option maxRecDepth 100000 in
set_option maxHeartbeats 2000000 in
theorem new_yes (n p ep : Int) (h : nodeP n p ep) : Calls Try.prog 9 #[.int .i64 n, .int .i64 p, .int .i64 ep] w fun e w' =>
    e = .returned (.tuple #[.pointer (some ⟨w.heap.size, 0, none⟩), .int .i64 0]) ∧ Ed w' w.heap.size (fun _ => False) (newS n p ep) ∧ Below w.heap.size w w' ∧ w'.heap.size = w.heap.size + 1 := by
  have H := Lib.hid h
  obtain ⟨h0, h1, h2, h3, h4, h5, h6⟩ := h
  have hb : Blk (w.alloc (.cells (ea (newS n p ep) none 0) 75)) w.heap.size 75 (ea (newS n p ep) none 0) := Blk.new w _ _ rfl
  have hbl : Below w.heap.size w (w.alloc (.cells (ea (newS n p ep) none 0) 75)) := (Below.refl _ _).alloc (Nat.le_refl _) _
  have m1 := may_ w n
  have m2 := may_ w p
  rw [show decide (0 ≤ n ∧ n < 16) = true by simp; omega] at m1
  rw [show decide (0 ≤ p ∧ p < 16) = true by simp; omega] at m2
  have t1 : (n == p) = false := by simpa using h4
  have t2 : ¬ ep < 1 := by omega
  have t3 : ¬ 2147483648 < ep := by omega
  go_enter Try.func9, Try.ntmps9
  go_wp2_with fail
  refine m1.mono ?_
  rintro e w' ⟨rfl, rfl⟩
  go_wp2_with fail
  refine m2.mono ?_
  rintro e w' ⟨rfl, rfl⟩
  go_wp2
  go_ret2
  exact ⟨rfl, ⟨none, 0, [], hb, lq_none, rfl, Nat.le_refl _, Nat.zero_le _, fun e => e, H.out⟩, hbl, by simp⟩
set_option maxRecDepth 100000 in
set_option maxHeartbeats 2000000 in
theorem new_no (n p ep : Int) (h : ¬ nodeP n p ep) : Calls Try.prog 9 #[.int .i64 n, .int .i64 p, .int .i64 ep] w fun e w' =>
    e = .returned (.tuple #[.pointer none, .int .i64 1]) ∧ w = w' := by
  have m1 := may_ w n
  have m2 := may_ w p
  unfold nodeP at h
  by_cases h1 : 0 ≤ n ∧ n < 16
  · rw [decide_eq_true h1] at m1
    by_cases h2 : 0 ≤ p ∧ p < 16
    · rw [decide_eq_true h2] at m2
      by_cases h3 : n = p
      · subst h3
        go_enter Try.func9, Try.ntmps9
        go_wp2_with fail
        refine m1.mono ?_
        rintro e w' ⟨rfl, rfl⟩
        go_wp2_with fail
        refine m2.mono ?_
        rintro e w' ⟨rfl, rfl⟩
        go_wp2
        go_ret2
        exact ⟨rfl, rfl⟩
      · by_cases h4 : ep < 1
        · clear h
          go_enter Try.func9, Try.ntmps9
          go_wp2_with fail
          refine m1.mono ?_
          rintro e w' ⟨rfl, rfl⟩
          go_wp2_with fail
          refine m2.mono ?_
          rintro e w' ⟨rfl, rfl⟩
          go_wp2
          go_ret2
          exact ⟨rfl, rfl⟩
        · have h5 : 2147483648 < ep := by omega
          clear h
          go_enter Try.func9, Try.ntmps9
          go_wp2_with fail
          refine m1.mono ?_
          rintro e w' ⟨rfl, rfl⟩
          go_wp2_with fail
          refine m2.mono ?_
          rintro e w' ⟨rfl, rfl⟩
          go_wp2
          go_ret2
          exact ⟨rfl, rfl⟩
    · rw [decide_eq_false h2] at m2
      clear h h2
      go_enter Try.func9, Try.ntmps9
      go_wp2_with fail
      refine m1.mono ?_
      rintro e w' ⟨rfl, rfl⟩
      go_wp2_with fail
      refine m2.mono ?_
      rintro e w' ⟨rfl, rfl⟩
      go_wp2
      go_ret2
      exact ⟨rfl, rfl⟩
  · rw [decide_eq_false h1] at m1
    clear h h1
    go_enter Try.func9, Try.ntmps9
    go_wp2_with fail
    refine m1.mono ?_
    rintro e w' ⟨rfl, rfl⟩
    go_wp2
    go_ret2
    exact ⟨rfl, rfl⟩
set_option maxRecDepth 100000 in
set_option maxHeartbeats 2000000 in
theorem send_ (b : Nat) (U : Nat → Prop) (e : En) (h : Ed w b U e) (X : Option Addr) (m c : Nat) (d : List UInt8) (hX : Bs w X m d) (hXn : X = none → m = 0 ∧ c = 0) (hmc : m ≤ c) (hc : c ≤ 9223372036854775807) :
    Calls Try.prog 12 #[.pointer (some ⟨b, 0, none⟩), .slice X m c] w fun r w' => r = .returned (.int .i64 (sndE e d)) ∧ Ed w' b (fun k => U k ∨ w.heap.size ≤ k) (sndS e d) ∧ Fu (fun k => k = b) w w' := by
  have Hd := Lib.hid hX.len
  have H0 := Lib.hid h
  obtain ⟨A, n, L, h⟩ := h
  have hG := given_ w b e A n h.blk
  have HL := Lib.hid h.len
  have H := Lib.hid h
  have hn8 := h.n8
  have hbl := h.blk.lt
  have hbk := h.blk
  obtain ⟨_, _, _, _, _, c5, _, _⟩ := ea_cells h.blk
  have hSub : ∀ k, U k → k < w.heap.size → (U k ∨ w.heap.size ≤ k) := fun k hk _ => .inl hk
  clear h
  by_cases h1 : 1200 < m
  · have HE := Lib.hid (show sndE e d = 1 by unfold sndE; rw [if_pos (by have := Hd.out; omega)])
    go_enter Try.func12, Try.ntmps12
    go_wp2_with fail
    refine hG.mono ?_
    rintro r w' ⟨rfl, rfl⟩
    go_wp2
    go_ret
    rw [show sndS e d = e by unfold sndS; rw [HE.out]; rfl, HE.out]
    exact ⟨rfl, H0.out.sub hSub (fun q => q.elim H.out.out (by omega)), Fu.refl _ _⟩
  · by_cases h2 : 8 ≤ n
    · have HE := Lib.hid (show sndE e d = 15 by unfold sndE; rw [if_neg (by have := Hd.out; omega), if_pos (by have := HL.out; have := H.out.ack; omega)])
      go_enter Try.func12, Try.ntmps12
      go_wp2_with fail
      refine hG.mono ?_
      rintro r w' ⟨rfl, rfl⟩
      go_wp2
      go_ret
      rw [show sndS e d = e by unfold sndS; rw [HE.out]; rfl, HE.out]
      exact ⟨rfl, H0.out.sub hSub (fun q => q.elim H.out.out (by omega)), Fu.refl _ _⟩
    · have HE := Lib.hid (show sndE e d = 0 by unfold sndE; rw [if_neg (by have := Hd.out; omega), if_neg (by have := HL.out; have := H.out.ack; omega)])
      have HS := Lib.hid (show sndS e d = { e with l := e.l ++ [d] } by unfold sndS; rw [if_pos HE.out])
      go_enter Try.func12, Try.ntmps12
      go_wp2_with fail
      refine hG.mono ?_
      rintro r w' ⟨rfl, rfl⟩
      go_wp2_with fail
      go_region_law (first
        | (go_simp
           go_at_call 33
           refine (clone_ X m c d _ (Bs.drew hX) hXn hmc hc (by omega)).mono ?_
           rintro r w2 ⟨x2, rfl, hx2, hb2⟩
           have hb2' : Below w.heap.size w w2 := ⟨hb2.os, hb2.tape, hb2.output, hb2.size, hb2.block⟩
           have hk2 := hbk.keep hb2'
           have k5 := hk2.cell (j := 5) (u := .slice A n n) rfl
           have hq2 := H.out.q.keep hb2'
           have hD2 : Dt w2 (fun k => U k ∨ w.heap.size ≤ k) x2 d := Dt.own hx2 (by have := Hd.out; omega) (fun k hk => .inr hk)
           have hs2 : w.heap.size ≤ w2.heap.size := hb2'.size)
        | (go_simp
           go_at_call 32
           refine (with_ w2 (fun k => U k ∨ w.heap.size ≤ k) A n L (hq2.sub (fun k hk _ => .inl hk)) x2 d hD2 hn8).mono ?_
           rintro r w3 ⟨A3, rfl, hq3, hb3⟩
           have hk3 := hk2.keep hb3
           have e5 := hk3.cell (j := 5) (u := .slice A n n) rfl
           have f5 := hk3.free 5
           have hs3 : w2.heap.size ≤ w3.heap.size := hb3.size))
      all_goals (
        go_wp2
        go_ret
        rw [HE.out, HS.out]
        refine ⟨rfl, ⟨A3, n + 1, L ++ [(x2, d)], ?_, ?_, ?_, ?_, ?_, ?_, ?_⟩, ?_⟩
        · exact hk3.setCell 5 (.slice A3 (n + 1) (n + 1))
        · refine (hq3.sub (U' := fun k => U k ∨ w.heap.size ≤ k) (fun k hk _ => hk.elim id (fun q => .inr (by omega)))).fu (S := fun k => k = b) (Fu.ofGrown (grown_setCell w3 ⟨b, 5, none⟩ _) (fun k q => by injection q with q; exact q.symm)) (fun k hk q => ?_)
          subst q
          exact hk.elim H.out.out (by omega)
        · rw [List.map_append, H.out.is, List.drop_append_of_le_length H.out.ack]; rfl
        · have := H.out.ack; simp; omega
        · have := HL.out; have := H.out.ack; simp; omega
        · exact fun q => q.elim H.out.out (by omega)
        · exact H.out.ok
        · exact ((Fu.ofBelow (hb2'.trans (hb3.mono hs2))).step (grown_setCell w3 ⟨b, 5, none⟩ _) (fun j q => by injection q with q; exact .inl q.symm)))
end
end Ses
end Go.Proofs.Ytlmaelbalmjlbaa
