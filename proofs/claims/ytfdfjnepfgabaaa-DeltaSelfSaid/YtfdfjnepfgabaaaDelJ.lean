/- Layer 9: pieces; join. -/
import Derived.Test.YtfdfjnepfgabaaaDelH
set_option linter.all false
namespace Go.Proofs.Ytfdfjnepfgabaaa
open Go.RowKit

/-! ### pieces -/
def pv (q : Int × Int) : List Value := [.int .i64 q.1, .int .i64 q.2, .int .i64 0]
def pvs (l : List (Int × Int)) : List Value := l.flatMap pv
theorem pv_len (q : Int × Int) : (pv q).length = 3 := rfl
theorem pvs_cons (q : Int × Int) (l : List (Int × Int)) : pvs (q :: l) = pv q ++ pvs l := rfl
theorem pvs_app (l r : List (Int × Int)) : pvs (l ++ r) = pvs l ++ pvs r := by simp [pvs]
theorem pvs_snoc (l : List (Int × Int)) (q : Int × Int) : pvs (l ++ [q]) = pvs l ++ pv q := by rw [pvs_app]; simp [pvs]
theorem pvs_len : ∀ l : List (Int × Int), (pvs l).length = l.length * 3
  | [] => rfl
  | q :: l => by rw [pvs_cons, List.length_append, pvs_len l, pv_len, List.length_cons]; omega
theorem pv_one (q : Int × Int) : ∀ u ∈ pv q, u.oneCell' = true := by simp [pv, Value.oneCell']
/-- One block more. -/
def pushP (l : List (Int × Int)) (off : Int) : List (Int × Int) :=
  match l.getLast? with
  | some q => if q.2 = off then l.dropLast ++ [(q.1, q.2 + 1)] else l ++ [(off, off + 1)]
  | none => l ++ [(off, off + 1)]
theorem pushP_nil (off : Int) : pushP [] off = [(off, off + 1)] := rfl
theorem pushP_snoc (p : List (Int × Int)) (q : Int × Int) (off : Int) : pushP (p ++ [q]) off = if q.2 = off then p ++ [(q.1, q.2 + 1)] else p ++ [q] ++ [(off, off + 1)] := by
  unfold pushP
  simp
def pushN (l : List Nat) : List (Int × Int) := l.foldl (fun p (z : Nat) => pushP p (z : Int)) []
theorem pushN_snoc (l : List Nat) (z : Nat) : pushN (l ++ [z]) = pushP (pushN l) (z : Int) := by simp [pushN]
theorem runsTo_succ (y : Nat → Bool) (k : Nat) : runsTo y (k + 1) = if y k then
      (match (runsTo y k).getLast? with
        | some q => if (match k with | 0 => false | j + 1 => y j) then (runsTo y k).dropLast ++ [(q.1, q.2 + 1)] else runsTo y k ++ [((k : Int), (k : Int) + 1)]
        | none => runsTo y k ++ [((k : Int), (k : Int) + 1)])
    else runsTo y k := rfl
/-- The pieces of the young ones, rising, are their runs. -/
theorem pushN_runs (y : Nat → Bool) : ∀ n : Nat, pushN (yl y n) = runsTo y n
  | 0 => rfl
  | n + 1 => by
    cases hy : y n with
    | false =>
      rw [yl_no hy, pushN_runs y n, runsTo_succ, hy]
      rfl
    | true =>
      have hi := runs_inv y n
      rw [yl_yes hy, pushN_snoc, pushN_runs y n, runsTo_succ, hy, if_pos rfl]
      unfold pushP
      cases hl : (runsTo y n).getLast? with
      | none => rfl
      | some q =>
        simp only
        obtain ⟨p, hp⟩ := Blo.last_of hl
        have hq := hi.ends q (by rw [hp]; simp)
        cases n with
        | zero => rw [show runsTo y 0 = [] from rfl] at hl; cases hl
        | succ j =>
          simp only
          by_cases hj : y j = true
          · obtain ⟨p2, q2, e, e2⟩ := hi.last j rfl hj
            rw [e] at hl
            simp at hl
            subst hl
            rw [if_pos e2, if_pos hj]
          · have : q.2 ≠ ((j + 1 : Nat) : Int) := by
              intro e
              have := (hi.has j).1 ⟨q, by rw [hp]; simp, by omega, by omega⟩
              exact hj this.2
            rw [if_neg this, if_neg hj]
/-- How far pieces reach. -/
def lowP (l : List (Int × Int)) : Prop := ∀ q ∈ l, 0 ≤ q.1 ∧ q.1 ≤ 1024 ∧ 0 ≤ q.2 ∧ q.2 ≤ 1024
theorem lowP_nil : lowP [] := by simp [lowP]
theorem lowP_push {l : List (Int × Int)} (h : lowP l) {z : Nat} (hz : z < 1024) : lowP (pushP l (z : Int)) := by
  rcases snoc_cases l with rfl | ⟨p, q, rfl⟩
  · rw [pushP_nil]
    intro r hr
    rw [List.mem_singleton.1 hr]
    simp only
    omega
  · rw [pushP_snoc]
    have hq := h q (by simp)
    split
    · intro r hr
      rcases List.mem_append.1 hr with hr | hr
      · exact h r (by simp [hr])
      · rw [List.mem_singleton.1 hr]; simp only; omega
    · intro r hr
      rcases List.mem_append.1 hr with hr | hr
      · exact h r hr
      · rw [List.mem_singleton.1 hr]; simp only; omega
theorem pushP_len (l : List (Int × Int)) (off : Int) : (pushP l off).length ≤ l.length + 1 := by
  rcases snoc_cases l with rfl | ⟨p, q, rfl⟩
  · simp [pushP_nil]
  · rw [pushP_snoc]; split <;> simp
/-- The slice value v is of the call's own, and reads as the pieces l. -/
abbrev Po (w : World) (base : Nat) (v : Value) (n : Nat) (l : List (Int × Int)) : Prop := w.ownsRow base 50 3 v n (pvs l)
theorem po_len {w : World} {base : Nat} {v : Value} {n : Nat} {l : List (Int × Int)} (h : Po w base v n l) : n = l.length := by
  have := h.1
  rw [pvs_len] at this
  omega
theorem info_piece : (Try.prog.info? 50).map (fun i => (i.zero, i.size, i.bytes)) = some (some (.agg #[.int .i64 0, .int .i64 0, .int .i64 0]), 3, 24) := by kernel_rfl
theorem piece_info : ∃ i, Try.prog.info? 50 = some i ∧ i.zero = some (.agg #[.int .i64 0, .int .i64 0, .int .i64 0]) ∧ i.size = 3 ∧ i.bytes = 24 := by
  obtain ⟨i, hi, he⟩ := Option.map_eq_some_iff.1 info_piece
  simp only [Prod.mk.injEq] at he
  exact ⟨i, hi, he⟩
theorem po_set {w : World} {base : Nat} {v : Value} {n : Nat} {p : List (Int × Int)} {q : Int × Int} (h : Po w base v n (p ++ [q])) : ∃ g cap, v = .slice (some ⟨g, 0, none⟩) n cap ∧ base ≤ g ∧ n = p.length + 1 ∧
    w.cell? ⟨g, p.length * 3 + 1, none⟩ = some (.int .i64 q.2) ∧ w.frozen? ⟨g, p.length * 3 + 1, none⟩ = false ∧
    Po (w.setCell ⟨g, p.length * 3 + 1, none⟩ (.int .i64 (q.2 + 1))) base v n (p ++ [(q.1, q.2 + 1)]) := by
  have hl := po_len h
  rw [List.length_append, List.length_singleton] at hl
  rcases h.2 with ⟨_, h0⟩ | ⟨g, cap, cur, rfl, hg, hh, hnc, hcm, hcs, hx⟩
  · omega
  · have hb : Blk w g 50 cur := hh
    refine ⟨g, cap, rfl, hg, hl, hb.cell ?_, hb.free _, ⟨?_, .inr ⟨g, cap, cur.setIfInBounds (p.length * 3 + 1) (.int .i64 (q.2 + 1)), rfl, hg, hb.setCell _ _, hnc, hcm, by simp [hcs], ?_⟩⟩⟩
    · have h1 : (pvs (p ++ [q]))[p.length * 3 + 1]? = some (.int .i64 q.2) := by
        rw [pvs_snoc, List.getElem?_append_right (by rw [pvs_len]; omega), pvs_len, Nat.add_sub_cancel_left]
        rfl
      rw [← hx, List.getElem?_take] at h1
      split at h1
      · simpa using h1
      · cases h1
    · rw [pvs_len]; simp [hl]
    · rw [Array.toList_setIfInBounds, List.take_set, hx, pvs_snoc, pvs_snoc, List.set_append_right _ _ (by rw [pvs_len]; omega), pvs_len, Nat.add_sub_cancel_left]
      rfl
def JoinP (w : World) (base : Nat) (v : Value) (l : List (Int × Int)) (e : Ending) (w' : World) : Prop := ∃ v' n', e = .returned v' ∧ Po w' base v' n' l ∧ After w v w' v'
section
variable (w : World)
set_option maxRecDepth 100000 in
set_option maxHeartbeats 2000000 in
theorem djoin_ (base : Nat) (v : Value) (n : Nat) (l : List (Int × Int)) (z : Nat) (h : Po w base v n l) (hb : base ≤ w.heap.size) (hn : n ≤ 100000) (hz : z < 1024) (hlow : lowP l) :
    Calls Try.prog 32 #[v, .int .i64 (z : Int)] w fun e w' => JoinP w base v (pushP l (z : Int)) e w' := by
  obtain ⟨i0, hi0, hz0, hz1, hz2⟩ := piece_info
  have Hz := Lib.hid hz2
  clear hz2
  have hwz : IntKind.i64.wrap ((z : Int) + 1) = (z : Int) + 1 := by rw [IntKind.wrap_i64]; omega
  have hr1 : Rd (w.alloc (.cells #[.int .i64 (z : Int), .int .i64 ((z : Int) + 1), .int .i64 0] 50)) (some ⟨w.heap.size, 0, none⟩) 3 1 (pv ((z : Int), (z : Int) + 1)) := Rd.new w #[.int .i64 (z : Int), .int .i64 ((z : Int) + 1), .int .i64 0] 50 (0, 0) rfl
  have hown1 := own_keep h ((Below.refl _ w).alloc (Nat.le_refl _) (.cells #[.int .i64 (z : Int), .int .i64 ((z : Int) + 1), .int .i64 0] 50))
  rcases snoc_cases l with rfl | ⟨p, q, rfl⟩
  · have hn0 : n = 0 := po_len h
    subst hn0
    obtain ⟨A, c, rfl, hc, hcm, hA⟩ := own_form h
    go_enter Try.func32, Try.ntmps32
    go_wp2_with (first
      | (at_builtin
         go_must (refine wpList_app _ rfl (.tmp 29) (.tmp 34) _ rfl base 50 i0 _ 3 24 Try.underlying34 hi0 hz0 hz1 Hz.out rfl (by decide) (.slice A 0 c) 0 _ rfl hown1 _ 1 1 (pv ((z : Int), (z : Int) + 1)) rfl (fun h => by cases h) hr1 (pv_one _) (by unfold maxLen; omega) (by omega) (by simp; omega) ?_)
         intro v3 w3 hown3 hg3 hat3))
    go_ret
    refine ⟨v3, 0 + 1, rfl, ?_, grown_step (below_grown ((Below.refl _ w).alloc (Nat.le_refl _) _) _) hg3 (fun j hj => .inr hj), hat3.imp id fun e => ⟨_, e, by simp⟩⟩
    rw [pushP_nil]
    exact hown3
  · obtain ⟨g, cap, rfl, hbg, hnm, c1, c2, hset⟩ := po_set h
    have hq := hlow q (by simp)
    have Hnm := Lib.hid hnm
    generalize hmp : p.length = m at *
    have hw1 : IntKind.i64.wrap ((n : Int) - 1) = (m : Int) := by rw [IntKind.wrap_i64]; omega
    have hm0 : (0 : Int) ≤ (m : Int) := by omega
    have hmn : (m : Int) < (n : Int) := by omega
    have hwq : IntKind.i64.wrap (q.2 + 1) = q.2 + 1 := by rw [IntKind.wrap_i64]; omega
    clear hnm hmp h
    by_cases he : q.2 = (z : Int)
    · have hqz : (q.2 == (z : Int)) = true := by simp [he]
      go_enter Try.func32, Try.ntmps32
      go_wp2
      go_ret
      rw [he] at hset
      refine ⟨.slice (some ⟨g, 0, none⟩) n cap, n, rfl, ?_, grown_setCell w ⟨g, m * 3 + 1, none⟩ (.int .i64 ((z : Int) + 1)), .inl rfl⟩
      rw [pushP_snoc, if_pos he, he]
      exact hset
    · have hqz : (q.2 == (z : Int)) = false := by simp [he]
      go_enter Try.func32, Try.ntmps32
      go_wp2_with (first
        | (at_builtin
           go_must (refine wpList_app _ rfl (.tmp 29) (.tmp 34) _ rfl base 50 i0 _ 3 24 Try.underlying34 hi0 hz0 hz1 Hz.out rfl (by decide) (.slice (some ⟨g, 0, none⟩) n cap) n _ rfl hown1 _ 1 1 (pv ((z : Int), (z : Int) + 1)) rfl (fun h => by cases h) hr1 (pv_one _) (by unfold maxLen; omega) (by omega) (by simp; omega) ?_)
           intro v3 w3 hown3 hg3 hat3))
      go_ret
      refine ⟨v3, n + 1, rfl, ?_, grown_step (below_grown ((Below.refl _ w).alloc (Nat.le_refl _) _) _) hg3 (fun j hj => .inr hj), hat3.imp id fun e => ⟨_, e, by simp⟩⟩
      rw [pushP_snoc, if_neg he]
      show w3.ownsRow base _ 3 v3 (n + 1) (pvs (p ++ [q] ++ [((z : Int), (z : Int) + 1)]))
      rw [pvs_snoc (p ++ [q])]
      exact hown3
end
end Go.Proofs.Ytfdfjnepfgabaaa
