/- Walks of package pack's Reader, more: Get, Int, Part, End, At, Left, Fault, New. -/
import Derived.Test.YtallbhdfbkkjkaaPackR
set_option linter.all false
namespace Go.Proofs.Ytallbhdfbkkjkaa
open Go.RowKit

/-- The place, and the first fault. -/
structure RS where
  p : Nat
  e : Nat
  f : Nat
def rGet (xs : List UInt8) (s : RS) : Nat × RS := if s.e ≠ 0 then (0, s) else if xs.length < s.p + 8 then (0, ⟨s.p, 3, xs.length⟩) else (numAt (xs.drop s.p), ⟨s.p + 8, 0, 0⟩)
def rInt (xs : List UInt8) (most : Int) (s : RS) : Nat × RS :=
  if s.e ≠ 0 then (0, s) else if xs.length < s.p + 8 then (0, ⟨s.p, 3, xs.length⟩) else
  if most < (numAt (xs.drop s.p) : Int) then (0, ⟨s.p, 6, s.p⟩) else (numAt (xs.drop s.p), ⟨s.p + 8, 0, 0⟩)
def rPart (xs : List UInt8) (s : RS) : List UInt8 × RS :=
  if s.e ≠ 0 then ([], s) else if xs.length < s.p + 8 then ([], ⟨s.p, 3, xs.length⟩) else
  if 2147483648 < numAt (xs.drop s.p) then ([], ⟨s.p, 6, s.p⟩) else if xs.length < s.p + 8 + numAt (xs.drop s.p) then ([], ⟨s.p, 3, xs.length⟩) else
  ((xs.drop (s.p + 8)).take (numAt (xs.drop s.p)), ⟨s.p + 8 + numAt (xs.drop s.p), 0, 0⟩)
def rEnd (xs : List UInt8) (s : RS) : RS := if s.e ≠ 0 then s else if s.p < xs.length then ⟨s.p, 16, s.p⟩ else s
/-- A Reader's state. -/
def Rs (w : World) (br : Nat) (xs : List UInt8) (s : RS) : Prop := Rr w br xs s.p s.e s.f
theorem Rr.none_f {w : World} {br : Nat} {xs : List UInt8} {p e f : Nat} (h : Rr w br xs p e f) (he : e = 0) : f = 0 := by obtain ⟨_, _, _, _, _, _, _, _, _, _, h7⟩ := h; exact h7 he
theorem grown_drewN {w w' : World} {row : Option Nat} (h : w.grownBy w' row) (k : Nat) : w.grownBy (w'.drewN k) row := ⟨h.os, h.tape, h.output, h.size, h.block⟩
theorem grown_of_drewN {w w' : World} {row : Option Nat} {k : Nat} (h : (w.drewN k).grownBy w' row) : w.grownBy w' row := ⟨h.os, h.tape, h.output, h.size, h.block⟩

set_option maxRecDepth 100000 in
set_option maxHeartbeats 2000000 in
theorem int_ (br : Nat) (xs : List UInt8) (s : RS) (most : Int) (w : World) (h : Rs w br xs s) (hx : xs.length ≤ 140737488355328) (hm : -9223372036854775808 ≤ most ∧ most ≤ 9223372036854775807) :
    Calls Try.prog 38 #[.pointer (some ⟨br, 0, none⟩), .int .i64 most] w fun r w' => r = .returned (.int .i64 ((rInt xs most s).1 : Nat)) ∧ Rs w' br xs (rInt xs most s).2 ∧ w.grownBy w' (some br) := by
  obtain ⟨p, e, f⟩ := s
  have h : Rr w br xs p e f := h
  by_cases he : e = 0
  · obtain rfl := h.none_f he
    subst he
    by_cases hp : xs.length < p + 8
    · have HR := Lib.hid (show rInt xs most ⟨p, 0, 0⟩ = (0, ⟨p, 3, xs.length⟩) by simp [rInt, hp])
      go_enter Try.func38, Try.ntmps38
      go_wp2_with (refine (look_end br xs p _ h hp).mono ?_; rintro r w' ⟨rfl, hr, hg⟩)
      go_ret
      rw [HR.out]
      exact ⟨rfl, hr, hg⟩
    · obtain ⟨c1, c2, c3, f1, f2, f3⟩ := h.cells
      have hl := h.lt
      have h2 : p + 8 ≤ xs.length := by omega
      have hnl := numAt_lt (xs.drop p)
      by_cases hlt : most < (numAt (xs.drop p) : Int)
      · have HR := Lib.hid (show rInt xs most ⟨p, 0, 0⟩ = (0, ⟨p, 6, p⟩) by simp [rInt, hp, hlt])
        generalize hN : numAt (xs.drop p) = N at *
        have HN := Lib.hid hN
        clear hN
        have hm0 : most < 0 ∨ 0 ≤ most := by omega
        have hsg : most < 0 ∨ (0 ≤ most ∧ IntKind.u64.wrap most = most) := by
          rcases hm0 with h | h
          · exact .inl h
          · exact .inr ⟨h, by rw [IntKind.wrap_u64]; omega⟩
        clear hm0
        rcases hsg with hneg | ⟨hpos, hwr⟩
        all_goals
          go_enter Try.func38, Try.ntmps38
          go_wp2_with (refine (look_ok br xs p _ h h2).mono ?_; rw [HN.out]; rintro r w' ⟨rfl, k, rfl⟩)
          go_region_held3 (fun w' => w'.cell? ⟨br, 1, none⟩ = some (.int .i64 (p : Int))) (first | go_keep | exact hr.cells.1)
            (first
              | (go_at_call 59; refine (fail_new br xs p _ ((h.drewN k).drewN 1) 6 p (by decide)).mono ?_; rintro r w' ⟨rfl, hr, hg, hk0⟩))
          go_wp2
          go_ret
          rw [HR.out]
          exact ⟨rfl, hr, grown_of_drewN (k := k) (grown_of_drewN (k := 1) hg)⟩
      · have HR := Lib.hid (show rInt xs most ⟨p, 0, 0⟩ = (numAt (xs.drop p), ⟨p + 8, 0, 0⟩) by simp [rInt, hp, hlt])
        generalize hN : numAt (xs.drop p) = N at *
        have HN := Lib.hid hN
        clear hN
        have hpos : 0 ≤ most := by omega
        have hwr : IntKind.u64.wrap most = most := by rw [IntKind.wrap_u64]; omega
        have hN2 : (N : Int) ≤ most := by omega
        go_enter Try.func38, Try.ntmps38
        go_wp2_with (refine (look_ok br xs p _ h h2).mono ?_; rw [HN.out]; rintro r w' ⟨rfl, k, rfl⟩)
        go_ret
        rw [HR.out]
        have hg := (h.drewN k).go (p + 8) h2
        exact ⟨rfl, hg, grown_of_drewN (grown_setCell _ _ _)⟩
  · have HR := Lib.hid (show rInt xs most ⟨p, e, f⟩ = (0, ⟨p, e, f⟩) by simp [rInt, he])
    go_enter Try.func38, Try.ntmps38
    go_wp2_with (refine (look_had br xs p e f _ h he).mono ?_; rintro r w' ⟨rfl, rfl⟩)
    go_ret
    rw [HR.out]
    exact ⟨rfl, h, World.grownBy.refl _ _⟩

set_option maxRecDepth 100000 in
set_option maxHeartbeats 4000000 in
theorem rpart_ (br : Nat) (xs : List UInt8) (s : RS) (w : World) (h : Rs w br xs s) (hx : xs.length ≤ 140737488355328) :
    Calls Try.prog 39 #[.pointer (some ⟨br, 0, none⟩)] w fun r w' => ∃ v, r = .returned v ∧ w'.ownsRow w.heap.size 5 1 v (rPart xs s).1.length (bvs (rPart xs s).1) ∧ Rs w' br xs (rPart xs s).2 ∧ w.grownBy w' (some br) := by
  obtain ⟨p, e, f⟩ := s
  have h : Rr w br xs p e f := h
  by_cases he : e = 0
  · obtain rfl := h.none_f he
    subst he
    by_cases hp : xs.length < p + 8
    · have HR := Lib.hid (show rPart xs ⟨p, 0, 0⟩ = ([], ⟨p, 3, xs.length⟩) by simp [rPart, hp])
      go_enter Try.func39, Try.ntmps39
      go_wp2_with (refine (look_end br xs p _ h hp).mono ?_; rintro r w' ⟨rfl, hr, hg⟩)
      go_ret
      rw [HR.out]
      exact ⟨_, rfl, own_nil _ _ _ _, hr, hg⟩
    · obtain ⟨c1, c2, c3, f1, f2, f3⟩ := h.cells
      have hl := h.lt
      have h2 : p + 8 ≤ xs.length := by omega
      have hnl := numAt_lt (xs.drop p)
      by_cases hlt : 2147483648 < numAt (xs.drop p)
      · have HR := Lib.hid (show rPart xs ⟨p, 0, 0⟩ = ([], ⟨p, 6, p⟩) by simp [rPart, hp, hlt])
        generalize hN : numAt (xs.drop p) = N at *
        have HN := Lib.hid hN
        clear hN
        go_enter Try.func39, Try.ntmps39
        go_wp2_with (refine (look_ok br xs p _ h h2).mono ?_; rw [HN.out]; rintro r w' ⟨rfl, k, rfl⟩)
        go_region_held3 (fun w' => w'.cell? ⟨br, 1, none⟩ = some (.int .i64 (p : Int))) (first | go_keep | exact hr.cells.1)
          (first
            | (go_at_call 59; refine (fail_new br xs p _ ((h.drewN k).drewN 1) 6 p (by decide)).mono ?_; rintro r w' ⟨rfl, hr, hg, hk0⟩))
        go_wp2
        go_ret
        rw [HR.out]
        exact ⟨_, rfl, own_nil _ _ _ _, hr, grown_of_drewN (k := k) (grown_of_drewN (k := 1) hg)⟩
      · by_cases hlt2 : xs.length < p + 8 + numAt (xs.drop p)
        · have HR := Lib.hid (show rPart xs ⟨p, 0, 0⟩ = ([], ⟨p, 3, xs.length⟩) by simp [rPart, hp, hlt, hlt2])
          obtain ⟨A, n, c, hb, hs, _⟩ := id h
          have c0 := hb.cell (j := 0) (u := .slice A n c) rfl
          have Hn := Lib.hid hs.len
          generalize hN : numAt (xs.drop p) = N at *
          have HN := Lib.hid hN
          clear hN hb hs
          go_enter Try.func39, Try.ntmps39
          go_wp2_with (first
            | (go_at_call 58; refine (look_ok br xs p _ h h2).mono ?_; rw [HN.out]; rintro r w' ⟨rfl, k, rfl⟩)
            | (go_at_call 60; refine (left_ br xs p 0 0 _ (h.drewN k)).mono ?_; rintro r w' ⟨rfl, k2, rfl⟩))
          go_region_held3 (fun w' => w'.cell? ⟨br, 0, none⟩ = some (.slice A n c)) (first | go_keep | exact hk0.trans c0)
            (first
              | (go_at_call 59; refine (fail_new br xs p _ (h.drewN (k + k2 + 1)) 3 n (by decide)).mono ?_; rintro r w' ⟨rfl, hr, hg, hk0⟩))
          go_wp2
          go_ret
          rw [HR.out]
          rw [Hn.out] at hr
          exact ⟨_, rfl, own_nil _ _ _ _, hr, grown_of_drewN hg⟩
        · have HR := Lib.hid (show rPart xs ⟨p, 0, 0⟩ = ((xs.drop (p + 8)).take (numAt (xs.drop p)), ⟨p + 8 + numAt (xs.drop p), 0, 0⟩) by simp [rPart, hp, hlt, hlt2])
          obtain ⟨A, n, c, hb, hs, hne, hA, hnc, hc, _⟩ := id h
          have c0 := hb.cell (j := 0) (u := .slice A n c) rfl
          have Hn := Lib.hid hs.len
          obtain ⟨b, o, rfl, _⟩ := hs.at_ (k := 0) (by have := hs.len; omega)
          have hbs : ∀ N, p + 8 + N ≤ n → Bs w (if c = p + 8 then some ⟨b, o, none⟩ else some ⟨b, o + (p + 8), none⟩) N ((xs.drop (p + 8)).take N) := fun N hN => by
            have h1 := (hs.drop (k := p + 8) (cap := c) (by omega) hnc).take (k := N) (by omega)
            simpa [add_plain] using h1
          have hN0 : p + 8 + numAt (xs.drop p) ≤ n := by have := hs.len; omega
          generalize hN : numAt (xs.drop p) = N at *
          have HN := Lib.hid hN
          have hbsN := Lib.hid (hbs N hN0)
          clear hN hb hs hbs
          have t1 : (p : Int) + 8 ≤ (p : Int) + 8 + N := by omega
          have t2 : (p : Int) + 8 + N ≤ (n : Int) := by omega
          have t3 : (0 : Int) ≤ (p : Int) + 8 := by omega
          have t4 : (p : Int) + 8 + N ≤ (c : Int) := by omega
          have t5 : p + 8 + N ≤ c := by omega
          have t6 : p + 8 ≤ c := by omega
          have hcases : c = p + 8 ∨ ¬ c = p + 8 := Decidable.em _
          have hlenN : ((xs.drop (p + 8)).take N).length = N := by rw [List.length_take, List.length_drop]; have := Hn.out; omega
          have HlenN := Lib.hid hlenN
          have hend : p + 8 + N ≤ xs.length := by have := Hn.out; omega
          clear hlenN
          rcases hcases with hcc | hcc
          · subst hcc
            obtain rfl : N = 0 := by omega
            have hbsN' := hbsN.out
            rw [if_pos rfl] at hbsN'
            clear hbsN
            go_enter Try.func39, Try.ntmps39
            go_wp2_with (first
              | (go_at_call 58; refine (look_ok br xs p _ h h2).mono ?_; rw [HN.out]; rintro r w' ⟨rfl, k, rfl⟩)
              | (go_at_call 60; refine (left_ br xs p 0 0 _ (h.drewN k)).mono ?_; rintro r w' ⟨rfl, k2, rfl⟩))
            have hg : Rr ((w.drewN (k + k2)).setCell ⟨br, 1, none⟩ (.int .i64 ((p : Int) + 8))) br xs (p + 8) 0 0 := (h.drewN (k + k2)).go (p + 8) hend
            have hgr : w.grownBy ((w.drewN (k + k2)).setCell ⟨br, 1, none⟩ (.int .i64 ((p : Int) + 8))) (some br) := grown_of_drewN (grown_setCell _ _ _)
            have hbsW := hbsN'.grown hgr (fun a ha => by intro e; injection e with e; have := hne _ rfl; injection ha with ha; subst ha; simp only at e this; omega)
            have hz0 : ((w.drewN (k + k2)).setCell ⟨br, 1, none⟩ (.int .i64 ((p : Int) + 8))).cell? ⟨br, 0, none⟩ = some (.slice (some ⟨b, o, none⟩) n (p + 8)) := (World.cell?_setCell_other _ _ _ _ (by simp)).trans c0
            have hz1 : ((w.drewN (k + k2)).setCell ⟨br, 1, none⟩ (.int .i64 ((p : Int) + 8))).cell? ⟨br, 1, none⟩ = some (.int .i64 ((p : Int) + 8)) := World.cell?_setCell_same _ _ _ c1
            have hzl : br < ((w.drewN (k + k2)).setCell ⟨br, 1, none⟩ (.int .i64 ((p : Int) + 8))).heap.size := by simpa using hl
            have hsz : w.heap.size ≤ ((w.drewN (k + k2)).setCell ⟨br, 1, none⟩ (.int .i64 ((p : Int) + 8))).heap.size := hgr.size
            have hst : ((p : Int) + 8).toNat = p + 8 := by omega
            generalize (w.drewN (k + k2)).setCell ⟨br, 1, none⟩ (.int .i64 ((p : Int) + 8)) = W at *
            go_region_held3 (fun w' => w'.cell? ⟨br, 0, none⟩ = some (.slice (some ⟨b, o, none⟩) n (p + 8)) ∧ w'.cell? ⟨br, 1, none⟩ = some (.int .i64 ((p : Int) + 8))) (first | go_keep | exact ⟨(hb2.cell hzl).trans hz0, (hb2.cell hzl).trans hz1⟩)
              (first
                | (go_at_call 57; refine (clone_ _ _ _ _ _ (Bs.drew hbsW) (by simp) (by omega) (by omega) (by omega)).mono ?_; rintro r w2 ⟨v, rfl, hown, hb2⟩))
            go_wp2
            go_ret
            rw [HR.out]
            have hb2' : Below W.heap.size W w2 := ⟨hb2.os, hb2.tape, hb2.output, hb2.size, hb2.block⟩
            refine ⟨v, rfl, ?_, hg.below hb2', hgr.trans (below_grown hb2' _)⟩
            rw [HlenN.out]
            exact hown.mono hsz
          · have hbsN' := hbsN.out
            rw [if_neg hcc] at hbsN'
            clear hbsN
            go_enter Try.func39, Try.ntmps39
            go_wp2_with (first
              | (go_at_call 58; refine (look_ok br xs p _ h h2).mono ?_; rw [HN.out]; rintro r w' ⟨rfl, k, rfl⟩)
              | (go_at_call 60; refine (left_ br xs p 0 0 _ (h.drewN k)).mono ?_; rintro r w' ⟨rfl, k2, rfl⟩))
            have hg : Rr ((w.drewN (k + k2)).setCell ⟨br, 1, none⟩ (.int .i64 ((p : Int) + 8 + N))) br xs (p + 8 + N) 0 0 := (h.drewN (k + k2)).go (p + 8 + N) hend
            have hgr : w.grownBy ((w.drewN (k + k2)).setCell ⟨br, 1, none⟩ (.int .i64 ((p : Int) + 8 + N))) (some br) := grown_of_drewN (grown_setCell _ _ _)
            have hbsW := hbsN'.grown hgr (fun a ha => by intro e; injection e with e; have := hne _ rfl; injection ha with ha; subst ha; simp only at e this; omega)
            have hz0 : ((w.drewN (k + k2)).setCell ⟨br, 1, none⟩ (.int .i64 ((p : Int) + 8 + N))).cell? ⟨br, 0, none⟩ = some (.slice (some ⟨b, o, none⟩) n c) := (World.cell?_setCell_other _ _ _ _ (by simp)).trans c0
            have hz1 : ((w.drewN (k + k2)).setCell ⟨br, 1, none⟩ (.int .i64 ((p : Int) + 8 + N))).cell? ⟨br, 1, none⟩ = some (.int .i64 ((p : Int) + 8 + N)) := World.cell?_setCell_same _ _ _ c1
            have hzl : br < ((w.drewN (k + k2)).setCell ⟨br, 1, none⟩ (.int .i64 ((p : Int) + 8 + N))).heap.size := by simpa using hl
            have hsz : w.heap.size ≤ ((w.drewN (k + k2)).setCell ⟨br, 1, none⟩ (.int .i64 ((p : Int) + 8 + N))).heap.size := hgr.size
            have hst : ((p : Int) + 8 + N).toNat = p + 8 + N := by omega
            have hst2 : ((p : Int) + 8).toNat = p + 8 := by omega
            have hst3 : p + 8 + N - (p + 8) = N := by omega
            generalize (w.drewN (k + k2)).setCell ⟨br, 1, none⟩ (.int .i64 ((p : Int) + 8 + N)) = W at *
            go_region_held3 (fun w' => w'.cell? ⟨br, 0, none⟩ = some (.slice (some ⟨b, o, none⟩) n c) ∧ w'.cell? ⟨br, 1, none⟩ = some (.int .i64 ((p : Int) + 8 + N))) (first | go_keep | exact ⟨(hb2.cell hzl).trans hz0, (hb2.cell hzl).trans hz1⟩)
              (first
                | (go_at_call 57; refine (clone_ _ _ _ _ _ (Bs.drew hbsW) (by simp) (by omega) (by omega) (by omega)).mono ?_; rintro r w2 ⟨v, rfl, hown, hb2⟩))
            go_wp2
            go_ret
            rw [HR.out]
            have hb2' : Below W.heap.size W w2 := ⟨hb2.os, hb2.tape, hb2.output, hb2.size, hb2.block⟩
            refine ⟨v, rfl, ?_, hg.below hb2', hgr.trans (below_grown hb2' _)⟩
            rw [HlenN.out]
            exact hown.mono hsz
  · have HR := Lib.hid (show rPart xs ⟨p, e, f⟩ = ([], ⟨p, e, f⟩) by simp [rPart, he])
    go_enter Try.func39, Try.ntmps39
    go_wp2_with (refine (look_had br xs p e f _ h he).mono ?_; rintro r w' ⟨rfl, rfl⟩)
    go_ret
    rw [HR.out]
    exact ⟨_, rfl, own_nil _ _ _ _, h, World.grownBy.refl _ _⟩
end Go.Proofs.Ytallbhdfbkkjkaa
