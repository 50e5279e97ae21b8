/- Walks of package pack's Reader, the rest: End, At, Left, Fault, New, and a nil Reader. -/
import Derived.Test.YtallbhdfbkkjkaaPackS
set_option linter.all false
namespace Go.Proofs.Ytallbhdfbkkjkaa
open Go.RowKit

theorem int_nil (most : Int) (w : World) : Calls Try.prog 38 #[.pointer none, .int .i64 most] w fun r w' => r = .returned (.int .i64 0) ∧ w = w' := by
  go_enter Try.func38, Try.ntmps38
  go_wp2
  go_ret
  exact ⟨rfl, rfl⟩
theorem rpart_nil (w : World) : Calls Try.prog 39 #[.pointer none] w fun r w' => r = .returned (.slice none 0 0) ∧ w = w' := by
  go_enter Try.func39, Try.ntmps39
  go_wp2
  go_ret
  exact ⟨rfl, rfl⟩

set_option maxRecDepth 100000 in
set_option maxHeartbeats 400000 in
theorem fault_ (br : Nat) (xs : List UInt8) (s : RS) (w : World) (h : Rs w br xs s) :
    Calls Try.prog 61 #[.pointer (some ⟨br, 0, none⟩)] w fun r w' => r = .returned (.agg #[.int .i64 (s.e : Nat), .int .i64 (s.f : Nat)]) ∧ Below w.heap.size w w' := by
  obtain ⟨p, e, f⟩ := s
  have h : Rr w br xs p e f := h
  obtain ⟨c1, c2, c3, f1, f2, f3⟩ := h.cells
  have hl := h.lt
  clear h
  go_enter Try.func61, Try.ntmps61
  go_wp2
  refine bodyPost_ret (v := .agg #[.int .i64 (e : Int), .int .i64 (f : Int)]) (by simp [results, Try.results61, go_sem]) rfl ⟨rfl, ?_⟩
  exact (Below.refl _ _).alloc (Nat.le_refl _) _
set_option maxRecDepth 100000 in
set_option maxHeartbeats 400000 in
theorem pnew_ (A : Option Addr) (n c : Nat) (xs : List UInt8) (w : World) (hr : Bs w A n xs) (hA : A = none → n = 0 ∧ c = 0) (hnc : n ≤ c) (hc : c ≤ 9223372036854775807) (hn : n ≤ 140737488351300) :
    Calls Try.prog 37 #[.slice A n c] w fun r w' => ∃ br, r = .returned (.pointer (some ⟨br, 0, none⟩)) ∧ w.heap.size ≤ br ∧ Rs w' br xs ⟨0, 0, 0⟩ ∧ Below w.heap.size w w' := by
  go_enter Try.func37, Try.ntmps37
  go_wp2_with fail
  refine (clone_ _ _ _ _ _ hr hA hnc hc hn).mono ?_
  rintro r w1 ⟨v, rfl, hown, hb⟩
  obtain ⟨A1, c1, rfl, hc1, hm1, ha1⟩ := own_form hown
  have hz := hb.size
  go_wp2
  go_ret
  refine ⟨w1.heap.size, rfl, hz, ⟨A1, n, c1, Blk.new w1 _ _ rfl, (bs_own hown).alloc _, fun a ha => ?_, fun h => (ha1 h).2, hc1, by unfold maxLen at hm1; omega, Nat.zero_le _, fun _ => rfl⟩, hb.alloc hz _⟩
  have := (hown.lt a.block (by rw [ha]; rfl)).2
  omega

set_option maxRecDepth 100000 in
set_option maxHeartbeats 400000 in
theorem fault_nil (w : World) : Calls Try.prog 61 #[.pointer none] w fun r w' => r = .returned (.agg #[.int .i64 3, .int .i64 0]) ∧ Below w.heap.size w w' := by
  go_enter Try.func61, Try.ntmps61
  go_wp2
  refine bodyPost_ret (v := .agg #[.int .i64 3, .int .i64 0]) (by simp [results, Try.results61, go_sem]) rfl ⟨rfl, ?_⟩
  exact (Below.refl _ _).alloc (Nat.le_refl _) _

theorem Rs.below {w w' : World} {br : Nat} {xs : List UInt8} {s : RS} (h : Rs w br xs s) (hb : Below w.heap.size w w') : Rs w' br xs s := Rr.below h hb
/-- A younger block is written: the Reader stays. -/
theorem Rr.grown {w w' : World} {br : Nat} {xs : List UInt8} {p e f g : Nat} (h : Rr w br xs p e f) (hg : w.grownBy w' (some g)) (hb : br < g) : Rr w' br xs p e f := by
  obtain ⟨A, n, c, h1, h2, h3, h4⟩ := h
  refine ⟨A, n, c, h1.grown hg (by intro e; injection e with e; omega), h2.grown hg (fun a ha => ?_), h3, h4⟩
  intro e
  injection e with e
  have := h3 a ha
  omega

set_option maxRecDepth 100000 in
set_option maxHeartbeats 2000000 in
theorem end_ (br : Nat) (xs : List UInt8) (s : RS) (w : World) (h : Rs w br xs s) :
    Calls Try.prog 40 #[.pointer (some ⟨br, 0, none⟩)] w fun r w' => r = .returned (.agg #[.int .i64 ((rEnd xs s).e : Nat), .int .i64 ((rEnd xs s).f : Nat)]) ∧ Rs w' br xs (rEnd xs s) ∧ w.grownBy w' (some br) := by
  obtain ⟨p, e, f⟩ := s
  have h : Rr w br xs p e f := h
  have hw1 : Rr (w.alloc (.cells #[.int .i64 0, .int .i64 0] 83)) br xs p e f := h.below ((Below.refl _ _).alloc (Nat.le_refl _) _)
  have hg1 : w.grownBy (w.alloc (.cells #[.int .i64 0, .int .i64 0] 83)) (some br) := World.grownBy_alloc _ _ _
  have hb1 : Blk (w.alloc (.cells #[.int .i64 0, .int .i64 0] 83)) w.heap.size 83 #[.int .i64 0, .int .i64 0] := Blk.new _ _ _ rfl
  have hsz : (w.alloc (.cells #[.int .i64 0, .int .i64 0] 83)).heap.size = w.heap.size + 1 := by simp
  have hl := h.lt
  clear h
  by_cases hp : p < xs.length
  · have t0 : (0 : Int) < (xs.length : Int) - p := by omega
    by_cases he : e = 0
    · obtain rfl := hw1.none_f he
      subst he
      have HR := Lib.hid (show rEnd xs ⟨p, 0, 0⟩ = ⟨p, 16, p⟩ by simp [rEnd, hp])
      go_enter Try.func40, Try.ntmps40
      go_wp2_with fail
      generalize (w.alloc (.cells #[.int .i64 0, .int .i64 0] 83)) = W at *
      refine (left_ br xs p 0 0 _ hw1).mono ?_
      rintro r w' ⟨rfl, k, rfl⟩
      obtain ⟨c1, c2, c3, f1, f2, f3⟩ := hw1.cells
      go_wp2_with fail
      go_region_held3 (fun w' => w'.cell? ⟨br, 1, none⟩ = some (.int .i64 (p : Int))) (first | go_keep | exact hr.cells.1)
        (first
          | (go_at_call 59; refine (fail_new br xs p _ (hw1.drewN (k + 1)) 16 p (by decide)).mono ?_; rintro r w2 ⟨rfl, hr, hg, hk0⟩))
      go_wp2_with fail
      have hb2 : Blk w2 w.heap.size 83 #[.int .i64 0, .int .i64 0] := hb1.grown (grown_of_drewN hg) (by intro e; injection e with e; omega)
      have hg2 : w.grownBy w2 (some br) := hg1.trans (grown_of_drewN hg)
      have hl2 := hb2.lt
      clear hb1 hsz
      refine (fault_ br xs ⟨p, 16, p⟩ _ hr).mono ?_
      rintro r w3 ⟨rfl, hb3⟩
      have hk := hb2.keep hb3
      have d0 := hk.cell (j := 0) (u := .int .i64 0) rfl
      have d1 := hk.cell (j := 1) (u := .int .i64 0) rfl
      have g0 := hk.free 0
      have g1 := hk.free 1
      have hl3 := hk.lt
      have hr3 : Rr w3 br xs p 16 p := Rr.below hr hb3
      have hg3 := hg2.trans (below_grown hb3 _)
      clear hb2 hk hw1 hg1
      go_wp2
      refine bodyPost_ret (v := .agg #[.int .i64 (16 : Nat), .int .i64 (p : Nat)]) (by simp [results, Try.results40, go_sem, d0, d1, g0, g1]) rfl ?_
      rw [HR.out]
      have hset := (grown_setCell w3 ⟨w.heap.size, 0, none⟩ (.int .i64 (16 : Nat))).trans (grown_setCell _ ⟨w.heap.size, 1, none⟩ (.int .i64 (p : Nat)))
      exact ⟨rfl, hr3.grown hset hl, grown_step hg3 hset (fun j e => .inl (by simp at e; omega))⟩
    · have HR := Lib.hid (show rEnd xs ⟨p, e, f⟩ = ⟨p, e, f⟩ by simp [rEnd, he])
      go_enter Try.func40, Try.ntmps40
      go_wp2_with fail
      generalize (w.alloc (.cells #[.int .i64 0, .int .i64 0] 83)) = W at *
      refine (left_ br xs p e f _ hw1).mono ?_
      rintro r w' ⟨rfl, k, rfl⟩
      obtain ⟨c1, c2, c3, f1, f2, f3⟩ := hw1.cells
      go_wp2_with fail
      go_region_held3 (fun w' => w'.cell? ⟨br, 1, none⟩ = some (.int .i64 (p : Int))) (first | go_keep | exact c1)
        (first
          | (go_at_call 59; refine (fail_had br xs p e f _ (hw1.drewN (k + 1)) he _ _).mono ?_; rintro r w2 ⟨rfl, rfl⟩))
      go_wp2_with fail
      have hb2 : Blk (W.drewN (k + 1)) w.heap.size 83 #[.int .i64 0, .int .i64 0] := hb1
      have hg2 : w.grownBy (W.drewN (k + 1)) (some br) := grown_drewN hg1 _
      have hl2 := hb2.lt
      clear hb1 hsz
      refine (fault_ br xs ⟨p, e, f⟩ _ (hw1.drewN (k + 1))).mono ?_
      rintro r w3 ⟨rfl, hb3⟩
      have hk := hb2.keep hb3
      have d0 := hk.cell (j := 0) (u := .int .i64 0) rfl
      have d1 := hk.cell (j := 1) (u := .int .i64 0) rfl
      have g0 := hk.free 0
      have g1 := hk.free 1
      have hl3 := hk.lt
      have hr3 : Rr w3 br xs p e f := Rr.below (hw1.drewN (k + 1)) hb3
      have hg3 := hg2.trans (below_grown hb3 _)
      clear hb2 hk hw1 hg1
      go_wp2
      refine bodyPost_ret (v := .agg #[.int .i64 (e : Nat), .int .i64 (f : Nat)]) (by simp [results, Try.results40, go_sem, d0, d1, g0, g1]) rfl ?_
      rw [HR.out]
      have hset := (grown_setCell w3 ⟨w.heap.size, 0, none⟩ (.int .i64 (e : Nat))).trans (grown_setCell _ ⟨w.heap.size, 1, none⟩ (.int .i64 (f : Nat)))
      exact ⟨rfl, hr3.grown hset hl, grown_step hg3 hset (fun j e => .inl (by simp at e; omega))⟩
  · have t0 : ¬ (0 : Int) < (xs.length : Int) - p := by omega
    have HR := Lib.hid (show rEnd xs ⟨p, e, f⟩ = ⟨p, e, f⟩ by simp [rEnd, hp])
    go_enter Try.func40, Try.ntmps40
    go_wp2_with fail
    generalize (w.alloc (.cells #[.int .i64 0, .int .i64 0] 83)) = W at *
    refine (left_ br xs p e f _ hw1).mono ?_
    rintro r w' ⟨rfl, k, rfl⟩
    obtain ⟨c1, c2, c3, f1, f2, f3⟩ := hw1.cells
    go_wp2_with fail
    have hb2 : Blk (W.drewN k) w.heap.size 83 #[.int .i64 0, .int .i64 0] := hb1
    have hg2 : w.grownBy (W.drewN k) (some br) := grown_drewN hg1 _
    have hl2 := hb2.lt
    clear hb1 hsz
    refine (fault_ br xs ⟨p, e, f⟩ _ (hw1.drewN k)).mono ?_
    rintro r w3 ⟨rfl, hb3⟩
    have hk := hb2.keep hb3
    have d0 := hk.cell (j := 0) (u := .int .i64 0) rfl
    have d1 := hk.cell (j := 1) (u := .int .i64 0) rfl
    have g0 := hk.free 0
    have g1 := hk.free 1
    have hl3 := hk.lt
    have hr3 : Rr w3 br xs p e f := Rr.below (hw1.drewN k) hb3
    have hg3 := hg2.trans (below_grown hb3 _)
    clear hb2 hk hw1 hg1
    go_wp2
    refine bodyPost_ret (v := .agg #[.int .i64 (e : Nat), .int .i64 (f : Nat)]) (by simp [results, Try.results40, go_sem, d0, d1, g0, g1]) rfl ?_
    rw [HR.out]
    have hset := (grown_setCell w3 ⟨w.heap.size, 0, none⟩ (.int .i64 (e : Nat))).trans (grown_setCell _ ⟨w.heap.size, 1, none⟩ (.int .i64 (f : Nat)))
    exact ⟨rfl, hr3.grown hset hl, grown_step hg3 hset (fun j e => .inl (by simp at e; omega))⟩
end Go.Proofs.Ytallbhdfbkkjkaa
