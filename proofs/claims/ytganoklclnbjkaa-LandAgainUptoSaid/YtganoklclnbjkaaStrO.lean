/- XStrN, XStrO. -/
import Derived.Test.YtganoklclnbjkaaStrK
import Derived.Test.YtganoklclnbjkaaBloW
set_option linter.all false
namespace Go.Proofs.Ytganoklclnbjkaa
open Go.RowKit
namespace Str
open Blo (I64)
theorem enters_One (vs : Array Value) (w : World) : (callFunc 31 vs).run Try.prog w = .ok (.enter 31 vs) w := by go_simp
section
variable (w : World)
set_option maxRecDepth 100000 in
set_option maxHeartbeats 4000000 in
theorem one_ (x y : Rec) (X Y : Option Addr) (m c p d : Nat) (dx : Rdt w x X m c) (dy : Rdt w y Y p d) :
    Calls Try.prog 31 #[.agg (ra x (.slice X m c)), .agg (ra y (.slice Y p d))] w fun e w' => e = .returned (.bool (decide (x = y))) ∧ Below w.heap.size w w' := by
  obtain ⟨w1, hw1⟩ : ∃ w1, w.alloc (.cells (ra x (.slice X m c)) 29) = w1 := ⟨_, rfl⟩
  have hs1 : w1.heap.size = w.heap.size + 1 := by rw [← hw1]; simp
  have hb1 : Below w.heap.size w w1 := by rw [← hw1]; exact (Below.refl _ _).alloc (Nat.le_refl _) _
  have hx1 : Blk w1 w.heap.size 29 (ra x (.slice X m c)) := by rw [← hw1]; exact Blk.new w _ _ rfl
  obtain ⟨w2, hw2⟩ : ∃ w2, w1.alloc (.cells (ra y (.slice Y p d)) 29) = w2 := ⟨_, rfl⟩
  have hb2 : Below w.heap.size w w2 := by rw [← hw2]; exact hb1.alloc hb1.size _
  have hy : Blk w2 (w.heap.size + 1) 29 (ra y (.slice Y p d)) := by rw [← hw2]; exact Blk.new w1 _ _ hs1.symm
  have hx : Blk w2 w.heap.size 29 (ra x (.slice X m c)) := by rw [← hw2]; exact hx1.alloc _
  have nx := dx.ns.below hb2
  have ny := dy.ns.below hb2
  have hm : m ≤ 9223372036854775807 := by have := dx.le; have := dx.cap; omega
  obtain ⟨c0, c1, c2, c3, c4, c5, c6, c7⟩ := k8 hx
  obtain ⟨d0, d1, d2, d3, d4, d5, d6, d7⟩ := k8 hy
  clear hx1 hb1
  go_enter Try.func31, Try.ntmps31
  by_cases h0 : x.k = y.k
  · skip
    by_cases h1 : x.sh = y.sh
    · skip
      by_cases h2 : x.sn = y.sn
      · skip
        by_cases h3 : x.ba = y.ba
        · skip
          by_cases h4 : x.ma = y.ma
          · skip
            by_cases h5 : x.off = y.off
            · skip
              by_cases h6 : x.len = y.len
              · skip
                have HR := Lib.hid (show decide (x = y) = decide (x.d = y.d) by cases x; cases y; simp only at h0 h1 h2 h3 h4 h5 h6; subst h0 h1 h2 h3 h4 h5 h6; simp)
                clear hx hy dx dy
                go_wp2_with fail
                refine (Blo.words_ _ X Y m p c d x.d y.d nx ny hm).mono ?_
                obtain ⟨R, hR⟩ : ∃ R, decide (x.d = y.d) = R := ⟨_, rfl⟩
                rw [hR] at HR ⊢
                clear hR
                rintro e w3 ⟨rfl, kk, rfl⟩
                go_wp2
                go_ret
                rw [HR.out]
                exact ⟨rfl, below_drewN hb2 _⟩
              · have HR := Lib.hid (show decide (x = y) = false from decide_eq_false (fun e => h6 (by rw [e])))
                clear hx hy dx dy nx ny
                go_wp2
                go_ret
                rw [HR.out]
                exact ⟨rfl, hb2⟩
            · have HR := Lib.hid (show decide (x = y) = false from decide_eq_false (fun e => h5 (by rw [e])))
              clear hx hy dx dy nx ny
              go_wp2
              go_ret
              rw [HR.out]
              exact ⟨rfl, hb2⟩
          · have HR := Lib.hid (show decide (x = y) = false from decide_eq_false (fun e => h4 (by rw [e])))
            clear hx hy dx dy nx ny
            go_wp2
            go_ret
            rw [HR.out]
            exact ⟨rfl, hb2⟩
        · have HR := Lib.hid (show decide (x = y) = false from decide_eq_false (fun e => h3 (by rw [e])))
          clear hx hy dx dy nx ny
          go_wp2
          go_ret
          rw [HR.out]
          exact ⟨rfl, hb2⟩
      · have HR := Lib.hid (show decide (x = y) = false from decide_eq_false (fun e => h2 (by rw [e])))
        clear hx hy dx dy nx ny
        go_wp2
        go_ret
        rw [HR.out]
        exact ⟨rfl, hb2⟩
    · have HR := Lib.hid (show decide (x = y) = false from decide_eq_false (fun e => h1 (by rw [e])))
      clear hx hy dx dy nx ny
      go_wp2
      go_ret
      rw [HR.out]
      exact ⟨rfl, hb2⟩
  · have HR := Lib.hid (show decide (x = y) = false from decide_eq_false (fun e => h0 (by rw [e])))
    clear hx hy dx dy nx ny
    go_wp2
    go_ret
    rw [HR.out]
    exact ⟨rfl, hb2⟩
end
end Str
end Go.Proofs.Ytganoklclnbjkaa

set_option linter.all false
namespace Go.Proofs.Ytganoklclnbjkaa
open Go.RowKit
namespace Str
open Blo (I64)
abbrev K8o (w : World) (b o : Nat) (r : Rec) (d : Value) : Prop := w.cell? ⟨b, o, none⟩ = some (.int .i64 r.k) ∧ w.cell? ⟨b, o + 1, none⟩ = some (.int .i64 r.sh) ∧ w.cell? ⟨b, o + 2, none⟩ = some (.int .i64 r.sn) ∧ w.cell? ⟨b, o + 3, none⟩ = some (.int .i64 r.ba) ∧ w.cell? ⟨b, o + 4, none⟩ = some (.int .i64 r.ma) ∧ w.cell? ⟨b, o + 5, none⟩ = some (.int .i64 r.off) ∧ w.cell? ⟨b, o + 6, none⟩ = some (.int .i64 r.len) ∧ w.cell? ⟨b, o + 7, none⟩ = some d
theorem k8o_below {w w' : World} {b o : Nat} {r : Rec} {d : Value} (h : K8o w b o r d) (hb : Below w.heap.size w w') : K8o w' b o r d := by
  obtain ⟨h0, h1, h2, h3, h4, h5, h6, h7⟩ := h
  have g : ∀ {p : Addr} {u : Value}, w.cell? p = some u → w'.cell? p = some u := fun h => (hb.cell (cell_lt h)).trans h
  exact ⟨g h0, g h1, g h2, g h3, g h4, g h5, g h6, g h7⟩
theorem k8o_drew {w : World} {b o : Nat} {r : Rec} {d : Value} (h : K8o w b o r d) : K8o w.drew b o r d := h
theorem rdt_drew {w : World} {r : Rec} {X : Option Addr} {m c : Nat} (h : Rdt w r X m c) : Rdt w.drew r X m c := ⟨h.ns.drew, h.nil, h.le, h.cap, h.by8, h.fit⟩
section
variable (w : World)
theorem one_t (x y : Rec) (X Y : Option Addr) (m c p d : Nat) (dx : Rdt w x X m c) (dy : Rdt w y Y p d) (h : x = y) :
    Calls Try.prog 31 #[.agg (ra x (.slice X m c)), .agg (ra y (.slice Y p d))] w fun e w' => e = .returned (.bool true) ∧ Below w.heap.size w w' := by
  have := one_ w x y X Y m c p d dx dy
  rwa [decide_eq_true h] at this
theorem one_f (x y : Rec) (X Y : Option Addr) (m c p d : Nat) (dx : Rdt w x X m c) (dy : Rdt w y Y p d) (h : ¬ x = y) :
    Calls Try.prog 31 #[.agg (ra x (.slice X m c)), .agg (ra y (.slice Y p d))] w fun e w' => e = .returned (.bool false) ∧ Below w.heap.size w w' := by
  have := one_ w x y X Y m c p d dx dy
  rwa [decide_eq_false h] at this
end
end Str
end Go.Proofs.Ytganoklclnbjkaa
