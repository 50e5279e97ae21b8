/- Layer 17: the document's Step -/
import Derived.Test.YtpjbeodnalgkfaaBarRb
set_option linter.all false
namespace Go.Proofs.Ytpjbeodnalgkfaa
open Go.RowKit
namespace Bar
theorem info_rorder : (Try.prog.info? 88).map (fun i => (i.zero, i.size, i.bytes)) = some (some (.agg #[.int .i64 0, .int .i64 0, .int .i64 0]), 3, 24) := by kernel_rfl
theorem rorder_info : ∃ i, Try.prog.info? 88 = some i ∧ i.zero = some (.agg #[.int .i64 0, .int .i64 0, .int .i64 0]) ∧ i.size = 3 ∧ i.bytes = 24 := by
  obtain ⟨i, hi, he⟩ := Option.map_eq_some_iff.1 info_rorder
  simp only [Prod.mk.injEq] at he
  exact ⟨i, hi, he.1, he.2.1, he.2.2⟩
/-- The orders of the agents below i. -/
def upTo (c : Co) (i : Nat) : List Odr := if 0 < c.ph then ((List.range i).filter fun j => !(c.ans.getD j true)).map (fun (j : Nat) => (⟨(j : Int), c.ph, c.id⟩ : Odr)) else []
theorem upTo_zero (c : Co) : upTo c 0 = [] := by unfold upTo; split <;> rfl
theorem upTo_all (c : Co) : upTo c c.ans.length = stepL c := rfl
theorem upTo_idle {c : Co} (h : ¬ 0 < c.ph) (i : Nat) : upTo c i = [] := by unfold upTo; rw [if_neg h]
theorem upTo_skip {c : Co} {i : Nat} (h : c.ans[i]? = some true) : upTo c (i + 1) = upTo c i := by
  unfold upTo
  split
  · rw [List.range_succ, List.filter_append, List.map_append]
    have : ([i].filter fun j => !(c.ans.getD j true)) = [] := by simp [h]
    rw [this]; simp
  · rfl
theorem upTo_take {c : Co} {i : Nat} (h0 : 0 < c.ph) (h : c.ans[i]? = some false) : upTo c (i + 1) = upTo c i ++ [⟨(i : Int), c.ph, c.id⟩] := by
  unfold upTo
  rw [if_pos h0, if_pos h0, List.range_succ, List.filter_append, List.map_append]
  have : ([i].filter fun j => !(c.ans.getD j true)) = [i] := by simp [h]
  rw [this]; rfl
theorem upTo_len (c : Co) (i : Nat) : (upTo c i).length ≤ i := by
  unfold upTo
  split
  · rw [List.length_map]; have := List.length_filter_le (fun j => !(c.ans.getD j true)) (List.range i); simpa using this
  · simp
section
variable (w : World)
set_option maxRecDepth 100000 in
set_option maxHeartbeats 4000000 in
theorem rstep_ (b : Nat) (U : Nat → Prop) (c : Co) (h : Rc w b U c) (hn : c.ans.length ≤ 16) : Calls Try.prog 25 #[.pointer (some ⟨b, 0, none⟩)] w fun e w' => ∃ v, e = .returned v ∧ w'.ownsRow w.heap.size 88 3 v (stepL c).length (ods (stepL c)) ∧ Below w.heap.size w w' := by
  obtain ⟨i0, hi0, hz0, hz1, hz2⟩ := rorder_info
  have Hz := Lib.hid hz2
  clear hz2
  obtain ⟨g, A1, n1, c1, A2, n2, c2, h⟩ := h
  obtain ⟨d0, d1, d2, d3, d4⟩ := h.cells
  have hgl := h.blk.lt
  obtain ⟨n, hnn⟩ : ∃ n, c.ans.length = n := ⟨_, rfl⟩
  rw [hnn] at d0 hn
  have HN := Lib.hid hnn
  have HA := Lib.hid h.ans
  have hga := h.ans.lt
  clear h hnn d3 d4
  rw [← upTo_all, HN.out]
  obtain ⟨p, hp⟩ : ∃ p, c.ph = p := ⟨_, rfl⟩
  obtain ⟨x, hx⟩ : ∃ x, c.id = x := ⟨_, rfl⟩
  rw [hp] at d1
  rw [hx] at d2
  have HP := Lib.hid hp
  have HX := Lib.hid hx
  clear hp hx
  go_enter Try.func25, Try.ntmps25
  go_wp2
  go_loopw [3, 4] (fun vv iv wr => ∃ i m : Nat, i ≤ n ∧ m ≤ i ∧ iv = .int .i64 (i : Int) ∧ wr.ownsRow w.heap.size 88 3 vv m (ods (upTo c i)) ∧ Hid (m = (upTo c i).length) ∧ Below w.heap.size w wr) (fun _ iv _ => n - (intOf iv).toNat)
  case atStart => exact ⟨0, 0, Nat.zero_le _, Nat.zero_le _, rfl, by rw [upTo_zero]; exact own_nil _ _ _ _, Lib.hid (by rw [upTo_zero]; rfl), Below.refl _ _⟩
  case round =>
    obtain ⟨i, m, hi, hmi, rfl, hown, hm, hb⟩ := hrel
    have e0 := (hb.cell (cell_lt d0)).trans d0
    by_cases hlt : i < n
    · have hil : (i : Int) < (n : Int) := by omega
      have hi0' : (0 : Int) ≤ (i : Int) := by omega
      have hsz := hb.size
      have e1 := (hb.cell (cell_lt d1)).trans d1
      have e2 := (hb.cell (cell_lt d2)).trans d2
      by_cases h0 : 0 < p
      · obtain ⟨y, hy⟩ : ∃ y, c.ans[i]? = some y := ⟨_, List.getElem?_eq_getElem (by rw [HN.out]; exact hlt)⟩
        have cy0 : w.cell? ⟨g, i, none⟩ = some (.bool y) := HA.out.cell (bls_at hy)
        have cy := (hb.cell (cell_lt cy0)).trans cy0
        clear cy0
        cases y
        · have HT := Lib.hid (show ods (upTo c (i + 1)) = ods (upTo c i) ++ odv ⟨(i : Int), p, x⟩ by rw [upTo_take (by rw [HP.out]; exact h0) hy, HP.out, HX.out]; exact ods_snoc _ _)
          have HM := Lib.hid (show m + 1 = (upTo c (i + 1)).length by rw [upTo_take (by rw [HP.out]; exact h0) hy, List.length_append, ← hm.out]; rfl)
          have hrd : Rd (wr.drew.alloc (.cells #[.int .i64 (i : Int), .int .i64 p, .int .i64 x] 88)) (some ⟨wr.heap.size, 0, none⟩) 3 1 (odv ⟨(i : Int), p, x⟩) := Rd.new wr.drew #[.int .i64 (i : Int), .int .i64 p, .int .i64 x] 88 (0, 0) (sz := 3) (n := 1) rfl
          have z3 : m + 1 ≤ maxLen := by unfold maxLen; omega
          have z4 : (m + 1) * 24 ≤ 140737488355328 := by omega
          obtain ⟨AO, cO, rfl, hcO, hmO, hnO⟩ := own_form hown
          have hoa := own_keep hown ((below_drew (Below.refl _ _)).alloc (Nat.le_refl _) (.cells #[.int .i64 (i : Int), .int .i64 p, .int .i64 x] 88))
          have hbs : w.heap.size ≤ (wr.drew.alloc (.cells #[.int .i64 (i : Int), .int .i64 p, .int .i64 x] 88)).heap.size := by simp; omega
          have hbA : Below w.heap.size w (wr.drew.alloc (.cells #[.int .i64 (i : Int), .int .i64 p, .int .i64 x] 88)) := (below_drew hb).alloc hsz _
          clear hy hm
          go_wp2_with fail
          go_region_law (first
            | (refine step_app _ rfl (.tmp 29) (.tmp 40) _ rfl w.heap.size 88 i0 _ 3 24 Try.underlying53 hi0 hz0 hz1 Hz.out rfl (by omega) (.slice AO m cO) m _ rfl hoa (some ⟨wr.heap.size, 0, none⟩) 1 1 (odv ⟨(i : Int), p, x⟩) rfl (fun h => by cases h) hrd (odv_one _) z3 z4 hbs ?_
               intro v3 w3 hown3 hg3 hat3
               rw [← HT.out] at hown3
               have hbw : Below w.heap.size w w3 := hbA.grown hg3 hbs (fun k hk => (hown.lt k hk).1)))
          all_goals (
            go_wp2
            go_roundw
            case rel => exact ⟨i + 1, m + 1, by omega, by omega, by go_num, hown3, HM, hbw⟩
            case measure => simp [intOf]; omega)
        · have hown2 := hown
          rw [← upTo_skip hy] at hown2
          have hm2 := Lib.hid (show m = (upTo c (i + 1)).length by rw [upTo_skip hy]; exact hm.out)
          have Hw := Lib.hid hown2
          clear hy hm hown hown2
          go_wp2
          go_roundw
          case rel => exact ⟨i + 1, m, by omega, by omega, by go_num, Hw.out, hm2, hb⟩
          case measure => simp [intOf]; omega
      · have hown2 := hown
        rw [upTo_idle (by rw [HP.out]; exact h0) i, ← upTo_idle (c := c) (by rw [HP.out]; exact h0) (i + 1)] at hown2
        have hm2 := Lib.hid (show m = (upTo c (i + 1)).length by rw [upTo_idle (by rw [HP.out]; exact h0) (i + 1), ← upTo_idle (c := c) (by rw [HP.out]; exact h0) i]; exact hm.out)
        have Hw := Lib.hid hown2
        clear hm hown hown2
        go_wp2
        go_roundw
        case rel => exact ⟨i + 1, m, by omega, by omega, by go_num, Hw.out, hm2, hb⟩
        case measure => simp [intOf]; omega
    · have he : i = n := by omega
      subst he
      have hil : ¬ (i : Int) < (i : Int) := by omega
      have Hw := Lib.hid hown
      have hmo := hm.out
      clear hm hown
      go_wp2
      go_ret
      refine ⟨_, rfl, ?_, hb⟩
      rw [← hmo]; exact Hw.out
end
end Bar
end Go.Proofs.Ytpjbeodnalgkfaa
