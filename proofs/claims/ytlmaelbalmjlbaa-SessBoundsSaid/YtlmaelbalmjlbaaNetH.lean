/- Layer 15: the document's Reader, more: Int, Part, End. -/
import Derived.Test.YtlmaelbalmjlbaaNetG
set_option linter.all false
namespace Go.Proofs.Ytlmaelbalmjlbaa
open Go.RowKit
namespace Net
set_option maxRecDepth 100000 in
set_option maxHeartbeats 2000000 in
theorem rfint_ (br : Nat) (xs : List UInt8) (s : RS) (w : World) (h : Rfs w br xs s) :
    Calls Try.prog 49 #[.pointer (some ⟨br, 0, none⟩), .int .i64 2147483648] w fun r w' => r = .returned (.int .i64 ((rInt xs 2147483648 s).1 : Nat)) ∧ Rfs w' br xs (rInt xs 2147483648 s).2 ∧ w.grownBy w' (some br) := by
  obtain ⟨p, e, f⟩ := s
  have h : Rf w br xs p e f := h
  by_cases he : e = 0
  · obtain rfl := h.none_f he
    subst he
    by_cases hp : xs.length < p + 8
    · have HR := Lib.hid (show rInt xs 2147483648 ⟨p, 0, 0⟩ = (0, ⟨p, 3, xs.length⟩) by simp [rInt, hp])
      go_enter Try.func49, Try.ntmps49
      go_wp2_with fail
      refine (peek_end br xs p _ h hp).mono ?_
      rintro r w' ⟨rfl, hr, hg⟩
      obtain ⟨c1, c2, c3, f1, f2, f3⟩ := hr.cells
      go_wp2
      go_ret
      rw [HR.out]
      exact ⟨rfl, hr, hg⟩
    · have h2 : p + 8 ≤ xs.length := by omega
      have hnl := numAt_lt (xs.drop p)
      by_cases hlt : (2147483648 : Int) < (numAt (xs.drop p) : Int)
      · have HR := Lib.hid (show rInt xs 2147483648 ⟨p, 0, 0⟩ = (0, ⟨p, 6, p⟩) by simp [rInt, hp, hlt])
        generalize hN : numAt (xs.drop p) = N at *
        have HN := Lib.hid hN
        clear hN
        go_enter Try.func49, Try.ntmps49
        go_wp2_with fail
        refine (peek_ok br xs p _ h h2).mono ?_
        rw [HN.out]
        rintro r w' ⟨rfl, k, rfl⟩
        obtain ⟨c1, c2, c3, f1, f2, f3⟩ := (h.drewN k).cells
        go_wp2_with fail
        refine (fails_new br xs p _ (h.drewN k) 6 p (by decide)).mono ?_
        rintro r w' ⟨rfl, hr, hg⟩
        obtain ⟨c1, c2, c3, f1, f2, f3⟩ := hr.cells
        go_wp2
        go_ret
        rw [HR.out]
        exact ⟨rfl, hr, grown_of_drewN hg⟩
      · have HR := Lib.hid (show rInt xs 2147483648 ⟨p, 0, 0⟩ = (numAt (xs.drop p), ⟨p + 8, 0, 0⟩) by simp [rInt, hp, hlt])
        generalize hN : numAt (xs.drop p) = N at *
        have HN := Lib.hid hN
        clear hN
        have hN2 : (N : Int) ≤ 2147483648 := by omega
        have hl9 : ∃ n : Nat, n ≤ 9223372036854775807 ∧ p ≤ n ∧ n = xs.length := by
          obtain ⟨A, n, c, _, hs, _, _, h4, h5, h6, _⟩ := h
          exact ⟨n, by omega, h6, hs.len⟩
        obtain ⟨nn, hn1, hn2, hn3⟩ := hl9
        have hp8 : p + 8 ≤ nn := by omega
        clear hn3
        go_enter Try.func49, Try.ntmps49
        go_wp2_with fail
        refine (peek_ok br xs p _ h h2).mono ?_
        rw [HN.out]
        rintro r w' ⟨rfl, k, rfl⟩
        obtain ⟨c1, c2, c3, f1, f2, f3⟩ := (h.drewN k).cells
        go_wp2
        go_ret
        rw [HR.out]
        have hg := (h.drewN k).go (p + 8) h2
        exact ⟨rfl, hg, grown_of_drewN (grown_setCell _ _ _)⟩
  · have HR := Lib.hid (show rInt xs 2147483648 ⟨p, e, f⟩ = (0, ⟨p, e, f⟩) by simp [rInt, he])
    obtain ⟨c1, c2, c3, f1, f2, f3⟩ := h.cells
    have t : ((e : Int) == 0) = false := by simpa using he
    have t2 : ((e : Int) != 0) = true := by simpa using he
    go_enter Try.func49, Try.ntmps49
    go_wp2_with fail
    refine (peek_had br xs p e f _ h he).mono ?_
    rintro r w' ⟨rfl, rfl⟩
    go_wp2
    go_ret
    rw [HR.out]
    exact ⟨rfl, h, World.grownBy.refl _ _⟩
theorem rfint_at (br : Nat) (y : List UInt8) (s s' : RS) (z : Int) (w : World) (h : Rfs w br y s) (hz : Hid (((rInt y 2147483648 s).1 : Int) = z)) (hs : Hid ((rInt y 2147483648 s).2 = s')) :
    Calls Try.prog 49 #[.pointer (some ⟨br, 0, none⟩), .int .i64 2147483648] w fun r w' => r = .returned (.int .i64 z) ∧ Rfs w' br y s' ∧ w.grownBy w' (some br) := by
  refine (rfint_ br y s w h).mono ?_
  rintro r w' ⟨e, h1, h2⟩
  rw [← hz.out, ← hs.out]
  exact ⟨e, h1, h2⟩
theorem Rf.grown {w w' : World} {br : Nat} {xs : List UInt8} {p e f g : Nat} (h : Rf w br xs p e f) (hg : w.grownBy w' (some g)) (hb : br < g) : Rf w' br xs p e f := by
  obtain ⟨A, n, c, h1, h2, h3, h4⟩ := h
  refine ⟨A, n, c, h1.grown hg (by intro e; injection e with e; omega), h2.grown hg (fun a ha => ?_), h3, h4⟩
  intro e
  injection e with e
  have := h3 a ha
  omega
set_option maxRecDepth 100000 in
set_option maxHeartbeats 2000000 in
theorem rfend_ (br : Nat) (xs : List UInt8) (s : RS) (w : World) (h : Rfs w br xs s) :
    Calls Try.prog 51 #[.pointer (some ⟨br, 0, none⟩)] w fun r w' => r = .returned (.agg #[.int .i64 ((rEnd xs s).e : Nat), .int .i64 ((rEnd xs s).f : Nat)]) ∧ Rfs w' br xs (rEnd xs s) ∧ w.grownBy w' (some br) := by
  obtain ⟨p, e, f⟩ := s
  have h : Rf w br xs p e f := h
  have hres := Blk.new w 101 #[.int .i64 0, .int .i64 0] rfl
  obtain ⟨w1, hw1⟩ : ∃ w1, w.alloc (.cells #[.int .i64 0, .int .i64 0] 101) = w1 := ⟨_, rfl⟩
  have hs1 : w1.heap.size = w.heap.size + 1 := by rw [← hw1]; simp
  have hb1 : Below w.heap.size w w1 := by rw [← hw1]; exact (Below.refl _ _).alloc (Nat.le_refl _) _
  rw [hw1] at hres
  have h1 := h.below hb1
  have hl := h.lt
  have hg1 := below_grown hb1 (some br)
  clear h hb1
  have h0 := h1
  obtain ⟨A, n, c, hb, hs, hne, h3, h4, h5, h6, h7⟩ := h0
  have c0 := hb.cell (j := 0) (u := .slice A n c) rfl
  obtain ⟨c1, c2, c3, f1, f2, f3⟩ := h1.cells
  have Hl := Lib.hid hs.len
  clear hb hs hne h3
  by_cases hp : p < n
  · have t0 : (p : Int) < (n : Int) := by omega
    have hp' : p < xs.length := by have := Hl.out; omega
    by_cases he : e = 0
    · obtain rfl := h1.none_f he
      subst he
      have HR := Lib.hid (show rEnd xs ⟨p, 0, 0⟩ = ⟨p, 16, p⟩ by simp [rEnd, hp'])
      go_enter Try.func51, Try.ntmps51
      go_wp2_with fail
      go_quiet (fail)
      go_wp2_with fail
      refine (fails_new br xs p _ (h1.drewN _) 16 p (by decide)).mono ?_
      rintro r w2 ⟨rfl, hr, hg⟩
      have hg' := grown_of_drewN hg
      have hres2 := hres.grown hg' (fun e => by injection e with e; omega)
      obtain ⟨c1, c2, c3, f1, f2, f3⟩ := hr.cells
      have d0 := hres2.cell (j := 0) (u := .int .i64 0) rfl
      have d1 := hres2.cell (j := 1) (u := .int .i64 0) rfl
      have g0 := hres2.free 0
      have g1 := hres2.free 1
      have hsz := hg'.size
      go_wp2
      have hset := (grown_setCell w2 ⟨w.heap.size, 0, none⟩ (.int .i64 (16 : Nat))).trans (grown_setCell _ ⟨w.heap.size, 1, none⟩ (.int .i64 (p : Nat)))
      refine bodyPost_ret (v := .agg #[.int .i64 (16 : Nat), .int .i64 (p : Nat)]) (by simp [results, Try.results51, go_sem, d0, d1, g0, g1]) rfl ?_
      rw [HR.out]
      exact ⟨rfl, Rf.grown hr hset hl, grown_step (hg1.trans hg') hset (fun j e => .inl (by simp at e; omega))⟩
    · have HR := Lib.hid (show rEnd xs ⟨p, e, f⟩ = ⟨p, e, f⟩ by simp [rEnd, he])
      go_enter Try.func51, Try.ntmps51
      go_wp2_with fail
      go_quiet (fail)
      go_wp2_with fail
      refine (fails_had br xs p e f _ (h1.drewN _) he _ _).mono ?_
      rintro r w2 ⟨rfl, rfl⟩
      have d0 := hres.cell (j := 0) (u := .int .i64 0) rfl
      have d1 := hres.cell (j := 1) (u := .int .i64 0) rfl
      have g0 := hres.free 0
      have g1 := hres.free 1
      go_wp2
      refine bodyPost_ret (v := .agg #[.int .i64 (e : Nat), .int .i64 (f : Nat)]) (by simp [results, Try.results51, go_sem, d0, d1, g0, g1]) rfl ?_
      rw [HR.out]
      have hset := (grown_setCell (w1.drewN nq) ⟨w.heap.size, 0, none⟩ (.int .i64 (e : Nat))).trans (grown_setCell _ ⟨w.heap.size, 1, none⟩ (.int .i64 (f : Nat)))
      exact ⟨rfl, Rf.grown (h1.drewN _) hset hl, grown_step (grown_drewN hg1 _) hset (fun j e => .inl (by simp at e; omega))⟩
  · have t0 : ¬ (p : Int) < (n : Int) := by omega
    have hp' : ¬ p < xs.length := by have := Hl.out; omega
    have HR := Lib.hid (show rEnd xs ⟨p, e, f⟩ = ⟨p, e, f⟩ by simp [rEnd, hp'])
    have d0 := hres.cell (j := 0) (u := .int .i64 0) rfl
    have d1 := hres.cell (j := 1) (u := .int .i64 0) rfl
    have g0 := hres.free 0
    have g1 := hres.free 1
    go_enter Try.func51, Try.ntmps51
    go_wp2_with fail
    go_quiet (fail)
    go_wp2
    refine bodyPost_ret (v := .agg #[.int .i64 (e : Nat), .int .i64 (f : Nat)]) (by simp [results, Try.results51, go_sem, d0, d1, g0, g1]) rfl ?_
    rw [HR.out]
    have hset := (grown_setCell (w1.drewN nq) ⟨w.heap.size, 0, none⟩ (.int .i64 (e : Nat))).trans (grown_setCell _ ⟨w.heap.size, 1, none⟩ (.int .i64 (f : Nat)))
    exact ⟨rfl, Rf.grown (h1.drewN _) hset hl, grown_step (grown_drewN hg1 _) hset (fun j e => .inl (by simp at e; omega))⟩
end Net
end Go.Proofs.Ytlmaelbalmjlbaa
