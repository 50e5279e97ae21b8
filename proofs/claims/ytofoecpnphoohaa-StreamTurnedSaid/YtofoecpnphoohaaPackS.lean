/- Walks of package pack's Reader, more: Get, Int, Part, End, At, Left, Fault, New. -/
import Derived.Test.YtofoecpnphoohaaPackR
set_option linter.all false
namespace Go.Proofs.Ytofoecpnphoohaa
open Go.RowKit

/-- The place, and the first fault. -/
structure RS where
  p : Nat
  e : Nat
  f : Nat
def rGet (xs : List UInt8) (s : RS) : Nat × RS := if s.e ≠ 0 then (0, s) else if xs.length < s.p + 8 then (0, ⟨s.p, 3, xs.length⟩) else (numAt (xs.drop s.p), ⟨s.p + 8, 0, 0⟩)
def rInt (xs : List UInt8) (most : Int) (s : RS) : Nat × RS :=
  if s.e ≠ 0 then (0, s) else if xs.length < s.p + 8 then (0, ⟨s.p, 3, xs.length⟩) else
  if most < (numAt (xs.drop s.p) : Int) then (0, ⟨s.p, 6, s.p⟩) else (numAt (xs.drop s.p), ⟨s.p + 8, 0, 0⟩)
def rPart (xs : List UInt8) (s : RS) : List UInt8 × RS :=
  if s.e ≠ 0 then ([], s) else if xs.length < s.p + 8 then ([], ⟨s.p, 3, xs.length⟩) else
  if 2147483648 < numAt (xs.drop s.p) then ([], ⟨s.p, 6, s.p⟩) else if xs.length < s.p + 8 + numAt (xs.drop s.p) then ([], ⟨s.p, 3, xs.length⟩) else
  ((xs.drop (s.p + 8)).take (numAt (xs.drop s.p)), ⟨s.p + 8 + numAt (xs.drop s.p), 0, 0⟩)
def rEnd (xs : List UInt8) (s : RS) : RS := if s.e ≠ 0 then s else if s.p < xs.length then ⟨s.p, 16, s.p⟩ else s
/-- A Reader's state. -/
def Rs (w : World) (br : Nat) (xs : List UInt8) (s : RS) : Prop := Rr w br xs s.p s.e s.f
theorem Rr.none_f {w : World} {br : Nat} {xs : List UInt8} {p e f : Nat} (h : Rr w br xs p e f) (he : e = 0) : f = 0 := by obtain ⟨_, _, _, _, _, _, _, _, _, _, h7⟩ := h; exact h7 he
theorem grown_drewN {w w' : World} {row : Option Nat} (h : w.grownBy w' row) (k : Nat) : w.grownBy (w'.drewN k) row := ⟨h.os, h.tape, h.output, h.size, h.block⟩
theorem grown_of_drewN {w w' : World} {row : Option Nat} {k : Nat} (h : (w.drewN k).grownBy w' row) : w.grownBy w' row := ⟨h.os, h.tape, h.output, h.size, h.block⟩

set_option maxRecDepth 100000 in
set_option maxHeartbeats 1000000 in
theorem get_ (br : Nat) (xs : List UInt8) (s : RS) (w : World) (h : Rs w br xs s) (hx : xs.length ≤ 140737488355328) :
    Calls Try.prog 55 #[.pointer (some ⟨br, 0, none⟩)] w fun r w' => r = .returned (.int .u64 ((rGet xs s).1 : Nat)) ∧ Rs w' br xs (rGet xs s).2 ∧ w.grownBy w' (some br) := by
  obtain ⟨p, e, f⟩ := s
  have h : Rr w br xs p e f := h
  by_cases he : e = 0
  · obtain rfl := h.none_f he
    subst he
    by_cases hp : xs.length < p + 8
    · have HR := Lib.hid (show rGet xs ⟨p, 0, 0⟩ = (0, ⟨p, 3, xs.length⟩) by simp [rGet, hp])
      go_enter Try.func55, Try.ntmps55
      go_wp2_with (refine (look_end br xs p _ h hp).mono ?_; rintro r w' ⟨rfl, hr, hg⟩)
      go_ret
      rw [HR.out]
      exact ⟨rfl, hr, hg⟩
    · have HR := Lib.hid (show rGet xs ⟨p, 0, 0⟩ = (numAt (xs.drop p), ⟨p + 8, 0, 0⟩) by simp [rGet, hp])
      obtain ⟨c1, c2, c3, f1, f2, f3⟩ := h.cells
      have hl := h.lt
      have h2 : p + 8 ≤ xs.length := by omega
      go_enter Try.func55, Try.ntmps55
      go_wp2_with (refine (look_ok br xs p _ h h2).mono ?_; rintro r w' ⟨rfl, k, rfl⟩)
      go_ret
      rw [HR.out]
      have hg := (h.drewN k).go (p + 8) h2
      exact ⟨rfl, hg, grown_of_drewN (grown_setCell _ _ _)⟩
  · have HR := Lib.hid (show rGet xs ⟨p, e, f⟩ = (0, ⟨p, e, f⟩) by simp [rGet, he])
    go_enter Try.func55, Try.ntmps55
    go_wp2_with (refine (look_had br xs p e f _ h he).mono ?_; rintro r w' ⟨rfl, rfl⟩)
    go_ret
    rw [HR.out]
    exact ⟨rfl, h, World.grownBy.refl _ _⟩

set_option maxRecDepth 100000 in
set_option maxHeartbeats 2000000 in
theorem int_ (br : Nat) (xs : List UInt8) (s : RS) (most : Int) (w : World) (h : Rs w br xs s) (hx : xs.length ≤ 140737488355328) (hm : -9223372036854775808 ≤ most ∧ most ≤ 9223372036854775807) :
    Calls Try.prog 38 #[.pointer (some ⟨br, 0, none⟩), .int .i64 most] w fun r w' => r = .returned (.int .i64 ((rInt xs most s).1 : Nat)) ∧ Rs w' br xs (rInt xs most s).2 ∧ w.grownBy w' (some br) := by
  obtain ⟨p, e, f⟩ := s
  have h : Rr w br xs p e f := h
  by_cases he : e = 0
  · obtain rfl := h.none_f he
    subst he
    by_cases hp : xs.length < p + 8
    · have HR := Lib.hid (show rInt xs most ⟨p, 0, 0⟩ = (0, ⟨p, 3, xs.length⟩) by simp [rInt, hp])
      go_enter Try.func38, Try.ntmps38
      go_wp2_with (refine (look_end br xs p _ h hp).mono ?_; rintro r w' ⟨rfl, hr, hg⟩)
      go_ret
      rw [HR.out]
      exact ⟨rfl, hr, hg⟩
    · obtain ⟨c1, c2, c3, f1, f2, f3⟩ := h.cells
      have hl := h.lt
      have h2 : p + 8 ≤ xs.length := by omega
      have hnl := numAt_lt (xs.drop p)
      by_cases hlt : most < (numAt (xs.drop p) : Int)
      · have HR := Lib.hid (show rInt xs most ⟨p, 0, 0⟩ = (0, ⟨p, 6, p⟩) by simp [rInt, hp, hlt])
        generalize hN : numAt (xs.drop p) = N at *
        have HN := Lib.hid hN
        clear hN
        have hm0 : most < 0 ∨ 0 ≤ most := by omega
        have hsg : most < 0 ∨ (0 ≤ most ∧ IntKind.u64.wrap most = most) := by
          rcases hm0 with h | h
          · exact .inl h
          · exact .inr ⟨h, by rw [IntKind.wrap_u64]; omega⟩
        clear hm0
        rcases hsg with hneg | ⟨hpos, hwr⟩
        all_goals
          go_enter Try.func38, Try.ntmps38
          go_wp2_with (refine (look_ok br xs p _ h h2).mono ?_; rw [HN.out]; rintro r w' ⟨rfl, k, rfl⟩)
          go_region_held3 (fun w' => w'.cell? ⟨br, 1, none⟩ = some (.int .i64 (p : Int))) (first | go_keep | exact hr.cells.1)
            (first
              | (go_at_call 53; refine (fail_new br xs p _ ((h.drewN k).drewN 1) 6 p (by decide)).mono ?_; rintro r w' ⟨rfl, hr, hg, hk0⟩))
          go_wp2
          go_ret
          rw [HR.out]
          exact ⟨rfl, hr, grown_of_drewN (k := k) (grown_of_drewN (k := 1) hg)⟩
      · have HR := Lib.hid (show rInt xs most ⟨p, 0, 0⟩ = (numAt (xs.drop p), ⟨p + 8, 0, 0⟩) by simp [rInt, hp, hlt])
        generalize hN : numAt (xs.drop p) = N at *
        have HN := Lib.hid hN
        clear hN
        have hpos : 0 ≤ most := by omega
        have hwr : IntKind.u64.wrap most = most := by rw [IntKind.wrap_u64]; omega
        have hN2 : (N : Int) ≤ most := by omega
        go_enter Try.func38, Try.ntmps38
        go_wp2_with (refine (look_ok br xs p _ h h2).mono ?_; rw [HN.out]; rintro r w' ⟨rfl, k, rfl⟩)
        go_ret
        rw [HR.out]
        have hg := (h.drewN k).go (p + 8) h2
        exact ⟨rfl, hg, grown_of_drewN (grown_setCell _ _ _)⟩
  · have HR := Lib.hid (show rInt xs most ⟨p, e, f⟩ = (0, ⟨p, e, f⟩) by simp [rInt, he])
    go_enter Try.func38, Try.ntmps38
    go_wp2_with (refine (look_had br xs p e f _ h he).mono ?_; rintro r w' ⟨rfl, rfl⟩)
    go_ret
    rw [HR.out]
    exact ⟨rfl, h, World.grownBy.refl _ _⟩

end Go.Proofs.Ytofoecpnphoohaa
