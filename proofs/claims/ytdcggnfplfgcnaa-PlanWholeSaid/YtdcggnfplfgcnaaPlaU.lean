/- Layer 14: slices.Sort and slices.Compact of a row of the call's own; plan's Nodes. -/
import Derived.Test.YtdcggnfplfgcnaaPlaT
import Derived.Test.YtdcggnfplfgcnaaPlaSh
import Derived.Test.YtdcggnfplfgcnaaPlaL
import Derived.Sort.OwnSortedInts
set_option linter.all false
namespace Go.Proofs.Ytdcggnfplfgcnaa
open Go.RowKit Go.Sort
namespace Pla
open Blo (I64 Dat Sml FitB Opl dat_own ns_get cons_eq cons_ne drop_of)
open Sma (Pc Mp Mr mv runB run_mem Is ivs ivs_length ivs_app ivs_one)

theorem info_int : (Try.prog.info? 3).map (fun i => (i.zero, i.size, i.bytes)) = some (some (.int .i64 0), 1, 8) := by kernel_rfl
theorem int_info : ∃ i, Try.prog.info? 3 = some i ∧ i.zero = some (.int .i64 0) ∧ i.size = 1 ∧ i.bytes = 8 := by
  obtain ⟨i, hi, he⟩ := Option.map_eq_some_iff.1 info_int
  simp only [Prod.mk.injEq] at he
  exact ⟨i, hi, he.1, he.2.1, he.2.2⟩
/-- The first part of a row of the call's own. -/
theorem own_take {w : World} {base : Nat} {e : TypeId} {g n cap : Nat} {xs : List Value} (h : w.ownsRow base e 1 (.slice (some ⟨g, 0, none⟩) n cap) n xs) {k : Nat} (hk : k ≤ n) : w.ownsRow base e 1 (.slice (some ⟨g, 0, none⟩) k cap) k (xs.take k) := by
  have hx := h.1
  rcases h.2 with ⟨e1, _⟩ | ⟨g', cap', cur, e1, hg, hh, hnc, hcm, hcs, hxs⟩
  · cases e1
  injection e1 with e1 _ e3
  injection e1 with e1
  injection e1 with e1
  subst e1 e3
  refine ⟨by rw [List.length_take]; omega, .inr ⟨g, cap, cur, rfl, hg, hh, by omega, hcm, hcs, ?_⟩⟩
  rw [← hxs, List.take_take, Nat.mul_one, Nat.mul_one]
  congr 1
  omega
section
variable (w : World)
theorem sort_ (base : Nat) (v : Value) (n : Nat) (l : List Int) (hown : w.ownsRow base 3 1 v n (ivs l)) (hn : n ≤ 1000000) :
    Calls Try.prog 50 #[v] w fun e w' => e = .returned (.tuple #[]) ∧ w'.ownsRow base 3 1 v n (ivs (l.mergeSort fun x y => decide (x ≤ y))) ∧ w.grownBy w' v.ownBlock := by
  have hl : n = l.length := by have := hown.1; rw [ivs_length] at this; omega
  subst hl
  rcases hown.2 with ⟨e1, h0⟩ | ⟨g, cap, cur, rfl, hbase, hb, h1, h2, h3, h4⟩
  · have e0 : l = [] := List.eq_nil_of_length_eq_zero h0
    subst e0
    rw [e1]
    refine (Try.slices_Sort_int_none none 0 w).mono ?_
    rintro e w' ⟨rfl, rfl⟩
    rw [List.mergeSort_nil]
    exact ⟨rfl, own_nil _ _ _ _, World.grownBy.refl _ _⟩
  · have hh := holds_of_blockI hb (by simpa [ivs] using h4)
    refine (Try.slices_Sort_int g 0 cap l w hh (Array.getElem?_eq_some_iff.1 hb).1 (by omega)).mono ?_
    rintro e w' ⟨rfl, q, os, rfl⟩
    exact ⟨rfl, ownsRow_sortedI (by simp) hbase hb h1 h2 h3, grownBy_sortedI _⟩
theorem compact_ (base : Nat) (v : Value) (n : Nat) (l : List Int) (hown : w.ownsRow base 3 1 v n (ivs l)) (hn : n ≤ 1000000) :
    Calls Try.prog 51 #[v] w fun e w' => ∃ A c, e = .returned (.slice A (Lib.compact l).length c) ∧ w'.ownsRow base 3 1 (.slice A (Lib.compact l).length c) (Lib.compact l).length (ivs (Lib.compact l)) ∧ w.grownBy w' v.ownBlock := by
  have hl : n = l.length := by have := hown.1; rw [ivs_length] at this; omega
  subst hl
  rcases hown.2 with ⟨e1, h0⟩ | ⟨g, cap, cur, rfl, hbase, hb, h1, h2, h3, h4⟩
  · have e0 : l = [] := List.eq_nil_of_length_eq_zero h0
    subst e0
    rw [e1]
    refine (Try.slices_Compact_int_empty none 0 w).mono ?_
    rintro e w' ⟨rfl, rfl⟩
    exact ⟨none, 0, rfl, own_nil _ _ _ _, World.grownBy.refl _ _⟩
  · have hh := holds_of_blockI hb (by simpa [ivs] using h4)
    have hcl : (Lib.compact l).length ≤ l.length := by
      unfold Lib.compact Lib.compactUpTo
      rw [List.length_map]
      refine Nat.le_trans (List.length_filter_le _ _) ?_
      simp
    refine (Try.slices_Compact_int g 0 cap l w hh (by omega) h1).mono ?_
    rintro e w' ⟨rfl, q, rfl⟩
    have hgrow : (putRow (Value.int .i64) (Sort.ahead w q) g 0 (Lib.compact l ++ List.replicate (l.length - (Lib.compact l).length) 0).toArray) = grow (putRow (Value.int .i64) (Sort.ahead w q) g 0 (Lib.compact l ++ List.replicate (l.length - (Lib.compact l).length) 0).toArray) #[] := by unfold grow; rw [Array.append_empty]
    rw [hgrow]
    have h5 := ownsRow_sortedI (w := w) (base := base) (n := q) (os := #[]) (ss := l) (ts := Lib.compact l ++ List.replicate (l.length - (Lib.compact l).length) 0) (by simp; omega) hbase hb h1 h2 h3
    have h6 := own_take h5 hcl
    refine ⟨_, cap, rfl, ?_, grownBy_sortedI _⟩
    have e : ((Lib.compact l ++ List.replicate (l.length - (Lib.compact l).length) 0).map (Value.int .i64)).take (Lib.compact l).length = ivs (Lib.compact l) := by
      rw [List.map_append, List.take_append_of_le_length (by simp), List.take_of_length_le (by simp)]
      rfl
    rw [e] at h6
    exact h6
def ndsL (L : List (Pt × Value)) : List Int := L.map fun p => p.1.nd
set_option maxRecDepth 100000 in
set_option maxHeartbeats 2000000 in
theorem nodes_ (A : Option Addr) (n c : Nat) (L : List (Pt × Value)) (h : Ptl w A n L) (hn : n ≤ 1000000) :
    Calls Try.prog 27 #[.slice A n c] w fun e w' => ∃ A' k c', e = .returned (.slice A' k c') ∧ w'.ownsRow w.heap.size 3 1 (.slice A' k c') k (ivs (nodesA (ndsL L))) ∧ Below w.heap.size w w' := by
  obtain ⟨i0, hi0', hz0, hz1, hz2⟩ := int_info
  have Hz := Lib.hid hz2
  have Hl := Lib.hid h.len
  clear hz2
  go_enter Try.func27, Try.ntmps27
  go_wp2_with fail
  go_loopw [3, 8] (fun vv iv wr => ∃ i : Nat, i ≤ n ∧ iv = .int .i64 (i : Int) ∧ wr.ownsRow w.heap.size 3 1 vv i (ivs (ndsL (L.take i))) ∧ Below w.heap.size w wr) (fun _ iv _ => n - (intOf iv).toNat)
  case atStart => exact ⟨0, Nat.zero_le _, rfl, own_nil _ _ _ _, Below.refl _ _⟩
  case round =>
    obtain ⟨i, hi, rfl, hown, hb⟩ := hrel
    by_cases hlt : i < n
    · have hil : (i : Int) < (n : Int) := by omega
      have hi0 : (0 : Int) ≤ (i : Int) := by omega
      obtain ⟨p, o, x, X, xm, xc, rfl, hx, -, -, -, c0, c1, c2, c3, c4, c5⟩ := (h.below hb).at_ hlt
      have HS := Lib.hid (show ivs (ndsL (L.take (i + 1))) = ivs (ndsL (L.take i)) ++ [.int .i64 x.nd] by rw [List.take_add_one, hx]; simp [ndsL, ivs])
      have hba1 : Below wr.heap.size wr (wr.alloc (pto x (.slice X xm xc) 67)) := (Below.refl _ _).alloc (Nat.le_refl _) _
      have hac := Blk.new wr 67 #[.int .i64 x.pc, .int .i64 x.nd, .int .i64 x.op.kind, .int .i64 x.op.off, .int .i64 x.op.len, .slice X xm xc] rfl
      have hba : Below wr.heap.size wr ((wr.alloc (pto x (.slice X xm xc) 67)).alloc (.cells #[.int .i64 x.nd] 3)) := hba1.alloc (by simp) _
      have hrd : Rd ((wr.alloc (pto x (.slice X xm xc) 67)).alloc (.cells #[.int .i64 x.nd] 3)) (some ⟨wr.heap.size + 1, 0, none⟩) 1 1 [.int .i64 x.nd] := by
        have := Rd.new (wr.alloc (pto x (.slice X xm xc) 67)) #[.int .i64 x.nd] 3 (0, 0) (sz := 1) (n := 1) (by simp)
        simpa using this
      have howna := own_keep hown hba
      have hB := below_step hb hba (Nat.le_refl _)
      have hmx : i + 1 ≤ maxLen := by unfold maxLen; omega
      have hby : (i + 1) * 8 ≤ 140737488355328 := by omega
      have hbs := hB.size
      have hone : ∀ u ∈ [Value.int .i64 x.nd], u.oneCell' = true := by intro u hu; rw [List.mem_singleton.1 hu]; rfl
      clear hx hba1 hba hown hb
      go_wp2_with (first
        | (at_builtin
           go_must (refine wpList_app _ rfl (.tmp 12) (.tmp 15) _ rfl w.heap.size 3 i0 _ 1 8 Try.underlying60 hi0' hz0 hz1 Hz.out rfl Nat.one_pos _ i _ rfl howna (some ⟨wr.heap.size + 1, 0, none⟩) 1 1 [.int .i64 x.nd] rfl (fun h => some_ne h) hrd hone hmx hby hbs ?_)
           intro v3 w3 hown3 hg3 hat3
           rw [← HS.out] at hown3
           have hB3 : Below w.heap.size w w3 := hB.grown hg3 hbs (fun j hj => (howna.lt j hj).1)
           clear hg3 hat3 howna)
        | fail)
      go_roundw
      case rel => exact ⟨i + 1, by omega, by go_num, hown3, hB3⟩
      case measure => simp [intOf]; omega
    · have hik : i = n := by omega
      subst hik
      have hin : ¬ (i : Int) < (i : Int) := by omega
      rw [List.take_of_length_le (by rw [← Hl.out]; exact Nat.le_refl _)] at hown
      have hs1 := hb.size
      go_wp2_with fail
      refine (sort_ _ w.heap.size _ i (ndsL L) hown hn).mono ?_
      rintro e w2 ⟨rfl, hown2, hg2⟩
      have hB2 : Below w.heap.size w w2 := hb.grown hg2 hs1 (fun j hj => (hown.lt j hj).1)
      go_wp2_with fail
      refine (compact_ _ w.heap.size _ i _ hown2 hn).mono ?_
      rintro e w3 ⟨A', c', rfl, hown3, hg3⟩
      have hB3 : Below w.heap.size w w3 := hB2.grown hg3 hB2.size (fun j hj => (hown2.lt j hj).1)
      go_wp2
      go_ret
      exact ⟨A', _, c', rfl, hown3, hB3⟩
end
end Pla
end Go.Proofs.Ytdcggnfplfgcnaa
