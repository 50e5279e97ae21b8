/- Walks of package pack's Reader, the rest: End, At, Left, Fault, New, and a nil Reader. -/
import Derived.Test.YtlpbdnncbinbmaaPackS
namespace Go.Proofs.Ytlpbdnncbinbmaa
open Go.RowKit

theorem at_ (br : Nat) (xs : List UInt8) (s : RS) (w : World) (h : Rs w br xs s) :
    Calls Try.prog 70 #[.pointer (some ⟨br, 0, none⟩)] w fun r w' => r = .returned (.int .i64 (s.p : Nat)) ∧ w = w' := by
  obtain ⟨p, e, f⟩ := s
  have h : Rr w br xs p e f := h
  obtain ⟨c1, c2, c3, f1, f2, f3⟩ := h.cells
  clear h
  go_enter Try.func70, Try.ntmps70
  go_wp2
  go_ret
  exact ⟨rfl, rfl⟩
theorem at_nil (w : World) : Calls Try.prog 70 #[.pointer none] w fun r w' => r = .returned (.int .i64 0) ∧ w = w' := by
  go_enter Try.func70, Try.ntmps70
  go_wp2
  go_ret
  exact ⟨rfl, rfl⟩
theorem get_nil (w : World) : Calls Try.prog 60 #[.pointer none] w fun r w' => r = .returned (.int .u64 0) ∧ w = w' := by
  go_enter Try.func60, Try.ntmps60
  go_wp2
  go_ret
  exact ⟨rfl, rfl⟩
theorem int_nil (most : Int) (w : World) : Calls Try.prog 61 #[.pointer none, .int .i64 most] w fun r w' => r = .returned (.int .i64 0) ∧ w = w' := by
  go_enter Try.func61, Try.ntmps61
  go_wp2
  go_ret
  exact ⟨rfl, rfl⟩
set_option maxRecDepth 100000 in
set_option maxHeartbeats 400000 in
theorem fault_ (br : Nat) (xs : List UInt8) (s : RS) (w : World) (h : Rs w br xs s) :
    Calls Try.prog 62 #[.pointer (some ⟨br, 0, none⟩)] w fun r w' => r = .returned (.agg #[.int .i64 (s.e : Nat), .int .i64 (s.f : Nat)]) ∧ Below w.heap.size w w' := by
  obtain ⟨p, e, f⟩ := s
  have h : Rr w br xs p e f := h
  obtain ⟨c1, c2, c3, f1, f2, f3⟩ := h.cells
  have hl := h.lt
  clear h
  go_enter Try.func62, Try.ntmps62
  go_wp2
  refine bodyPost_ret (v := .agg #[.int .i64 (e : Int), .int .i64 (f : Int)]) (by simp [results, Try.results62, go_sem]) rfl ⟨rfl, ?_⟩
  exact (Below.refl _ _).alloc (Nat.le_refl _) _
set_option maxRecDepth 100000 in
set_option maxHeartbeats 400000 in
theorem pnew_ (A : Option Addr) (n c : Nat) (xs : List UInt8) (w : World) (hr : Bs w A n xs) (hA : A = none → n = 0 ∧ c = 0) (hnc : n ≤ c) (hc : c ≤ 9223372036854775807) (hn : n ≤ 140737488351300) :
    Calls Try.prog 59 #[.slice A n c] w fun r w' => ∃ br, r = .returned (.pointer (some ⟨br, 0, none⟩)) ∧ w.heap.size ≤ br ∧ Rs w' br xs ⟨0, 0, 0⟩ ∧ Below w.heap.size w w' := by
  go_enter Try.func59, Try.ntmps59
  go_wp2_with fail
  refine (clone_ _ _ _ _ _ hr hA hnc hc hn).mono ?_
  rintro r w1 ⟨v, rfl, hown, hb⟩
  obtain ⟨A1, c1, rfl, hc1, hm1, ha1⟩ := own_form hown
  have hz := hb.size
  go_wp2
  go_ret
  refine ⟨w1.heap.size, rfl, hz, ⟨A1, n, c1, Blk.new w1 _ _ rfl, (bs_own hown).alloc _, fun a ha => ?_, fun h => (ha1 h).2, hc1, by unfold maxLen at hm1; omega, Nat.zero_le _, fun _ => rfl⟩, hb.alloc hz _⟩
  have := (hown.lt a.block (by rw [ha]; rfl)).2
  omega

set_option maxRecDepth 100000 in
set_option maxHeartbeats 400000 in
theorem fault_nil (w : World) : Calls Try.prog 62 #[.pointer none] w fun r w' => r = .returned (.agg #[.int .i64 3, .int .i64 0]) ∧ Below w.heap.size w w' := by
  go_enter Try.func62, Try.ntmps62
  go_wp2
  refine bodyPost_ret (v := .agg #[.int .i64 3, .int .i64 0]) (by simp [results, Try.results62, go_sem]) rfl ⟨rfl, ?_⟩
  exact (Below.refl _ _).alloc (Nat.le_refl _) _

theorem Rs.below {w w' : World} {br : Nat} {xs : List UInt8} {s : RS} (h : Rs w br xs s) (hb : Below w.heap.size w w') : Rs w' br xs s := Rr.below h hb
/-- A younger block is written: the Reader stays. -/
theorem Rr.grown {w w' : World} {br : Nat} {xs : List UInt8} {p e f g : Nat} (h : Rr w br xs p e f) (hg : w.grownBy w' (some g)) (hb : br < g) : Rr w' br xs p e f := by
  obtain ⟨A, n, c, h1, h2, h3, h4⟩ := h
  refine ⟨A, n, c, h1.grown hg (by intro e; injection e with e; omega), h2.grown hg (fun a ha => ?_), h3, h4⟩
  intro e
  injection e with e
  have := h3 a ha
  omega

end Go.Proofs.Ytlpbdnncbinbmaa
