/- Layer 10: a Reader: New, Waits, Fault. -/
import Derived.Test.YtofoecpnphoohaaStrI
import Derived.Test.YtofoecpnphoohaaStrF
set_option linter.all false
namespace Go.Proofs.Ytofoecpnphoohaa
open Go.RowKit
namespace Str
open Blo (I64)
section
variable (w : World)
theorem next_ (A : Option Addr) (n c : Nat) (xs : List UInt8) (h : Bs w A n xs) (hA : A = none → n = 0 ∧ c = 0) (hnc : n ≤ c) (hc : c ≤ 9223372036854775807) (hn : n ≤ 140737488351300) :
    Calls Try.prog 23 #[.slice A n c] w fun e w' => NxA w w' e xs := by
  by_cases h8 : n < 8
  · exact next_short w A n c xs h hA hnc hc h8
  · by_cases hN : 700 < numAt xs
    · exact next_big w A n c xs h hA hnc hc hn (by omega) hN
    · by_cases hM : n < numAt xs + 8
      · exact next_part w A n c xs h hA hnc hc hn (by omega) (by omega) hM
      · by_cases hc8 : c = 8
        · exact next_empty w A n c xs h hA hnc hc hn (by omega) (by omega) (by omega) hc8
        · cases hok : okSum ((xs.drop 8).take (numAt xs)) with
          | false => exact next_sum w A n c xs h hA hnc hc hn (by omega) (by omega) (by omega) hc8 hok
          | true =>
            by_cases hfo : FormR (((xs.drop 8).take (numAt xs)).take (((xs.drop 8).take (numAt xs)).length - 4))
            · exact next_rec w A n c xs h hA hnc hc hn (by omega) (by omega) (by omega) hc8 hok hfo
            · exact next_form w A n c xs h hA hnc hc hn (by omega) (by omega) (by omega) hc8 hok hfo
end
/-- A Reader that New made: what waits, how many bytes went, the fault (Why, At). -/
structure Rdr where
  b : List UInt8
  at_ : Nat
  why : Int
  fat : Int
structure Rd_ (w : World) (base br : Nat) (s : Rdr) (v : Value) : Prop where
  blk : Blk w br 50 #[.bool true, v, .int .i64 (s.at_ : Int), .int .i64 s.why, .int .i64 s.fat]
  row : w.ownsRow base 5 1 v s.b.length (bvs s.b)
  lo : base ≤ br
/-- A Reader whose blocks are its own, from base on. -/
def Rdo (w : World) (base br : Nat) (s : Rdr) : Prop := ∃ v, Rd_ w base br s v
theorem Rdo.keep {w w' : World} {base br : Nat} {s : Rdr} (h : Rdo w base br s) (hb : Below w.heap.size w w') : Rdo w' base br s := by
  obtain ⟨v, h1, h2, h3⟩ := h
  exact ⟨v, h1.keep hb, own_keep h2 hb, h3⟩
theorem Rdo.grown {w w' : World} {base br : Nat} {s : Rdr} {row : Option Nat} (h : Rdo w base br s) (hg : w.grownBy w' row) (hr : ∀ k, row = some k → k < base) : Rdo w' base br s := by
  obtain ⟨v, h1, h2, h3⟩ := h
  exact ⟨v, h1.grown hg (fun e => by have := hr br e.symm; omega), own_grown h2 hg (fun k hk e => by have := hr k e.symm; have := (h2.lt k hk).1; omega), h3⟩
theorem Rdo.lt {w : World} {base br : Nat} {s : Rdr} (h : Rdo w base br s) : br < w.heap.size := by
  obtain ⟨v, h1, _⟩ := h
  exact h1.lt
abbrev rn : Rdr := ⟨[], 0, 0, 0⟩
theorem results_fault {fn : Func} {W : World} {q k : Nat} {a b : Value} {tmps : Array Value} (hr : fn.results = #[.cell k 34]) (h2 : tmps.getD k undef = .pointer (some ⟨q, 0, none⟩)) (hb : Blk W q 34 #[a, b]) :
    (results fn tmps).run Try.prog W = .ok (.agg #[a, b]) W := by
  have d0 := hb.cell (j := 0) rfl
  have d1 := hb.cell (j := 1) rfl
  have h2' : tmps[k]?.getD undef = .pointer (some ⟨q, 0, none⟩) := by simpa using h2
  simp [results, hr, h2', go_sem, d0, d1]
section
variable (w : World)
set_option maxRecDepth 100000 in
set_option maxHeartbeats 1000000 in
theorem rnew_ : Calls Try.prog 8 #[] w fun e w' => e = .returned (.pointer (some ⟨w.heap.size, 0, none⟩)) ∧ Rdo w' w.heap.size w.heap.size rn ∧ Below w.heap.size w w' := by
  go_enter Try.func8, Try.ntmps8
  go_wp2
  go_ret
  exact ⟨rfl, ⟨.slice none 0 0, Blk.new w _ _ rfl, own_nil _ _ _ _, Nat.le_refl _⟩, (Below.refl _ _).alloc (Nat.le_refl _) _⟩
set_option maxRecDepth 100000 in
set_option maxHeartbeats 1000000 in
theorem waits_ (base br : Nat) (s : Rdr) (h : Rdo w base br s) : Calls Try.prog 12 #[.pointer (some ⟨br, 0, none⟩)] w fun e w' => e = .returned (.int .i64 (s.b.length : Int)) ∧ w = w' := by
  obtain ⟨v, h1, h2, h3⟩ := h
  obtain ⟨A, c, rfl, _⟩ := own_form h2
  have c1 := h1.cell (j := 1) (u := .slice A s.b.length c) rfl
  clear h1 h2
  go_enter Try.func12, Try.ntmps12
  go_wp2
  go_ret
  exact ⟨rfl, rfl⟩
set_option maxRecDepth 100000 in
set_option maxHeartbeats 1000000 in
theorem rfault_ (base br : Nat) (s : Rdr) (h : Rdo w base br s) : Calls Try.prog 13 #[.pointer (some ⟨br, 0, none⟩)] w fun e w' => e = .returned (.agg #[.int .i64 s.why, .int .i64 s.fat]) ∧ Below w.heap.size w w' := by
  obtain ⟨v, h1, h2, h3⟩ := h
  have hlt := h1.lt
  obtain ⟨w1, hw1⟩ : ∃ w1, w.alloc (.cells #[.int .i64 0, .int .i64 0] 34) = w1 := ⟨_, rfl⟩
  have hb1 : Below w.heap.size w w1 := by rw [← hw1]; exact (Below.refl _ _).alloc (Nat.le_refl _) _
  have hn : Blk w1 w.heap.size 34 #[.int .i64 0, .int .i64 0] := by rw [← hw1]; exact Blk.new w _ _ rfl
  have h4 := h1.keep hb1
  have c3 := h4.cell (j := 3) (u := .int .i64 s.why) rfl
  have c4 := h4.cell (j := 4) (u := .int .i64 s.fat) rfl
  have n0 := hn.cell (j := 0) (u := .int .i64 0) rfl
  have n1 := hn.cell (j := 1) (u := .int .i64 0) rfl
  have z := hn.free
  clear h1 h2
  go_enter Try.func13, Try.ntmps13
  go_wp2
  refine bodyPost_ret (results_fault rfl rfl ((hn.setCell 0 (.int .i64 s.why)).setCell 1 (.int .i64 s.fat))) rfl ?_
  exact ⟨rfl, (hb1.setCell (Nat.le_refl _) _).setCell (Nat.le_refl _) _⟩
theorem waits_nil : Calls Try.prog 12 #[.pointer none] w fun e w' => e = .returned (.int .i64 0) ∧ w = w' := by
  go_enter Try.func12, Try.ntmps12
  go_wp2
  go_ret
  exact ⟨rfl, rfl⟩
set_option maxRecDepth 100000 in
theorem rfault_nil : Calls Try.prog 13 #[.pointer none] w fun e w' => e = .returned (.agg #[.int .i64 0, .int .i64 0]) ∧ Below w.heap.size w w' := by
  obtain ⟨w1, hw1⟩ : ∃ w1, w.alloc (.cells #[.int .i64 0, .int .i64 0] 34) = w1 := ⟨_, rfl⟩
  have hb1 : Below w.heap.size w w1 := by rw [← hw1]; exact (Below.refl _ _).alloc (Nat.le_refl _) _
  have hn : Blk w1 w.heap.size 34 #[.int .i64 0, .int .i64 0] := by rw [← hw1]; exact Blk.new w _ _ rfl
  have n0 := hn.cell (j := 0) (u := .int .i64 0) rfl
  have n1 := hn.cell (j := 1) (u := .int .i64 0) rfl
  have z := hn.free
  go_enter Try.func13, Try.ntmps13
  go_wp2
  refine bodyPost_ret (results_fault rfl rfl ((hn.setCell 0 (.int .i64 0)).setCell 1 (.int .i64 0))) rfl ?_
  exact ⟨rfl, (hb1.setCell (Nat.le_refl _) _).setCell (Nat.le_refl _) _⟩
end
end Str
end Go.Proofs.Ytofoecpnphoohaa
