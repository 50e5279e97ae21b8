/- Layer 17: the document's New -/
import Derived.Test.YtpjbeodnalgkfaaBarRi
set_option linter.all false
namespace Go.Proofs.Ytpjbeodnalgkfaa
open Go.RowKit
namespace Bar
theorem results_c5 {fn : Func} {W : World} {q k j : Nat} {a b c d e u : Value} {tmps : Array Value} (hr : fn.results = #[.cell k 43, .tmp j]) (h2 : tmps.getD k undef = .pointer (some ⟨q, 0, none⟩)) (h3 : tmps.getD j undef = u) (hb : Blk W q 43 #[a, b, c, d, e]) :
    (results fn tmps).run Try.prog W = .ok (.tuple #[.agg #[a, b, c, d, e], u]) W := by
  have d0 := hb.cell (j := 0) rfl
  have d1 := hb.cell (j := 1) rfl
  have d2 := hb.cell (j := 2) rfl
  have d3 := hb.cell (j := 3) rfl
  have d4 := hb.cell (j := 4) rfl
  have h2' : tmps[k]?.getD undef = .pointer (some ⟨q, 0, none⟩) := by simpa using h2
  have h3' : tmps[j]?.getD undef = u := by simpa using h3
  simp [results, hr, h2', h3', go_sem, d0, d1, d2, d3, d4]
theorem sets5 {W : World} {b : Nat} {t : TypeId} {a0 a1 a2 a3 a4 : Value} (h : Blk W b t #[a0, a1, a2, a3, a4]) (u0 u1 u2 u3 u4 : Value) : Blk (((((W.setCell ⟨b, 0, none⟩ u0).setCell ⟨b, 1, none⟩ u1).setCell ⟨b, 2, none⟩ u2).setCell ⟨b, 3, none⟩ u3).setCell ⟨b, 4, none⟩ u4) b t #[u0, u1, u2, u3, u4] := by
  have := ((((h.setCell 0 u0).setCell 1 u1).setCell 2 u2).setCell 3 u3).setCell 4 u4
  simpa using this
theorem fu5 (W : World) (b : Nat) (u0 u1 u2 u3 u4 : Value) : Fu (fun k => k = b) W (((((W.setCell ⟨b, 0, none⟩ u0).setCell ⟨b, 1, none⟩ u1).setCell ⟨b, 2, none⟩ u2).setCell ⟨b, 3, none⟩ u3).setCell ⟨b, 4, none⟩ u4) :=
  fu_set (fu_set (fu_set (fu_set (fu_set (Fu.refl (fun k => k = b) W) b 0 u0 rfl) b 1 u1 rfl) b 2 u2 rfl) b 3 u3 rfl) b 4 u4 rfl
section
variable (w : World)
set_option maxRecDepth 100000 in
set_option maxHeartbeats 4000000 in
theorem rnew_no (z : Int) (h : z < 1 ∨ 16 < z) : Calls Try.prog 20 #[.int .i64 z] w fun e w' => e = .returned (.tuple #[.agg #[.slice none 0 0, .int .i64 0, .int .i64 0, .slice none 0 0, .slice none 0 0], .int .i64 1]) ∧ Below w.heap.size w w' := by
  have hres := Blk.new w 43 #[.slice none 0 0, .int .i64 0, .int .i64 0, .slice none 0 0, .slice none 0 0] rfl
  obtain ⟨w1, hw1⟩ : ∃ w1, w.alloc (.cells #[.slice none 0 0, .int .i64 0, .int .i64 0, .slice none 0 0, .slice none 0 0] 43) = w1 := ⟨_, rfl⟩
  have hb1 : Below w.heap.size w w1 := by rw [← hw1]; exact (Below.refl _ _).alloc (Nat.le_refl _) _
  have hs1 : w1.heap.size = w.heap.size + 1 := by rw [← hw1]; simp
  rw [hw1] at hres
  have r0 := hres.cell (j := 0) rfl
  have r1 := hres.cell (j := 1) rfl
  have r2 := hres.cell (j := 2) rfl
  have r3 := hres.cell (j := 3) rfl
  have r4 := hres.cell (j := 4) rfl
  have rf0 := hres.free 0
  have rf1 := hres.free 1
  have rf2 := hres.free 2
  have rf3 := hres.free 3
  have rf4 := hres.free 4
  have HR := Lib.hid hres
  have HW := Lib.hid hw1
  clear hres
  by_cases h1 : z < 1
  · clear h
    go_enter Try.func20, Try.ntmps20
    go_wp2
    refine bodyPost_ret (results_c5 rfl rfl rfl (sets5 HR.out (.slice none 0 0) (.int .i64 0) (.int .i64 0) (.slice none 0 0) (.slice none 0 0))) rfl ?_
    exact ⟨rfl, (Fu.ofBelow (S := fun k => k = w.heap.size) hb1).then (fu5 w1 w.heap.size _ _ _ _ _) (fun j e => .inl e) |>.below (Nat.le_refl _) (fun j e => by omega)⟩
  · have h2 : 16 < z := by omega
    clear h
    go_enter Try.func20, Try.ntmps20
    go_wp2
    refine bodyPost_ret (results_c5 rfl rfl rfl (sets5 HR.out (.slice none 0 0) (.int .i64 0) (.int .i64 0) (.slice none 0 0) (.slice none 0 0))) rfl ?_
    exact ⟨rfl, (Fu.ofBelow (S := fun k => k = w.heap.size) hb1).then (fu5 w1 w.heap.size _ _ _ _ _) (fun j e => .inl e) |>.below (Nat.le_refl _) (fun j e => by omega)⟩
set_option maxRecDepth 100000 in
set_option maxHeartbeats 4000000 in
theorem rnew_ (n : Nat) (h1 : 1 ≤ n) (h2 : n ≤ 16) : Calls Try.prog 20 #[.int .i64 (n : Int)] w fun e w' => ∃ g, e = .returned (.tuple #[.agg #[.slice (some ⟨g, 0, none⟩) n n, .int .i64 0, .int .i64 0, .slice none 0 0, .slice none 0 0], .int .i64 0]) ∧ w.heap.size ≤ g ∧ Blk w' g 4 (bls (List.replicate n false)) ∧ Below w.heap.size w w' := by
  have hres := Blk.new w 43 #[.slice none 0 0, .int .i64 0, .int .i64 0, .slice none 0 0, .slice none 0 0] rfl
  obtain ⟨w1, hw1⟩ : ∃ w1, w.alloc (.cells #[.slice none 0 0, .int .i64 0, .int .i64 0, .slice none 0 0, .slice none 0 0] 43) = w1 := ⟨_, rfl⟩
  have hb1 : Below w.heap.size w w1 := by rw [← hw1]; exact (Below.refl _ _).alloc (Nat.le_refl _) _
  have hs1 : w1.heap.size = w.heap.size + 1 := by rw [← hw1]; simp
  rw [hw1] at hres
  have HR := Lib.hid hres
  have t1 : ¬ (n : Int) < 1 := by omega
  have t2 : ¬ (16 : Int) < (n : Int) := by omega
  obtain ⟨i0, hi0, hz0, hz1, hz2⟩ := bool_info
  have Hz := Lib.hid hz2
  have HS1 := Lib.hid hs1
  clear hz2 hres hs1
  go_enter Try.func20, Try.ntmps20
  go_wp2_with (first
    | (at_make
       refine wpList_make_blk _ rfl _ _ 41 rfl 4 i0 _ 1 1 Try.underlying41 hi0 hz0 hz1 Hz.out .i64 .i64 _ _ n rfl rfl rfl rfl (by omega) (by omega) ?_
       intro w2 hk2 hb2 hs2
       have k2 := HR.out.keep hb2
       have HK2 := Lib.hid k2
       have r0 := k2.cell (j := 0) rfl
       have r1 := k2.cell (j := 1) rfl
       have r2 := k2.cell (j := 2) rfl
       have r3 := k2.cell (j := 3) rfl
       have r4 := k2.cell (j := 4) rfl
       have rf0 := k2.free 0
       have rf1 := k2.free 1
       have rf2 := k2.free 2
       have rf3 := k2.free 3
       have rf4 := k2.free 4)
    | fail)
  rw [bls_made, HS1.out] at hk2
  have hl2 : w.heap.size + 1 ≤ w2.heap.size := by have := hk2.lt; omega
  have hF := fu5 w2 w.heap.size (.slice (some ⟨w1.heap.size, 0, none⟩) n n) (.int .i64 0) (.int .i64 0) (.slice none 0 0) (.slice none 0 0)
  refine bodyPost_ret (results_c5 rfl rfl rfl (sets5 HK2.out (.slice (some ⟨w1.heap.size, 0, none⟩) n n) (.int .i64 0) (.int .i64 0) (.slice none 0 0) (.slice none 0 0))) rfl ?_
  refine ⟨w1.heap.size, rfl, by have := HS1.out; omega, ?_, ?_⟩
  · rw [HS1.out]; exact blk_fu hk2 (by rw [HS1.out] at hF; exact hF) (by omega)
  · exact (hb1.trans (hb2.mono (by have := HS1.out; omega))).trans (hF.below (by omega) (fun j e => by omega))
end
end Bar
end Go.Proofs.Ytpjbeodnalgkfaa
