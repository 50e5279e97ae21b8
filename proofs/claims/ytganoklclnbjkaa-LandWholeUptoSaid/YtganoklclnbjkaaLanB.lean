/- XLanA, XLanB. -/
import Derived.Test.YtganoklclnbjkaaLanM
import Derived.Test.YtganoklclnbjkaaBloW
set_option linter.all false
namespace Go.Proofs.Ytganoklclnbjkaa
open Go.RowKit
namespace Lan
open Str (Rec mayB opOf)
open Blo (I64 apL apE)

/-- A volume that a berth has: in no block but those of U, and not in the berth's own. -/
structure Vol (w : World) (b : Nat) (U : Nat → Prop) (A : Option Addr) (n c : Nat) (l : List Nat) : Prop where
  ns : Ns w A n l
  nil : A = none → n = 0 ∧ c = 0
  le : n ≤ c
  cap : c ≤ 9223372036854775807
  out : ∀ a, A = some a → a.block ≠ b ∧ U a.block ∧ a.block < w.heap.size
theorem Vol.none {w : World} {b : Nat} {U : Nat → Prop} : Vol w b U none 0 0 [] := ⟨Ns.nil, fun _ => ⟨rfl, rfl⟩, Nat.le_refl _, by omega, fun a h => by cases h⟩
theorem Vol.below {w w' : World} {b : Nat} {U : Nat → Prop} {A : Option Addr} {n c : Nat} {l : List Nat} (h : Vol w b U A n c l) (hb : Below w.heap.size w w') : Vol w' b U A n c l :=
  ⟨h.ns.below hb, h.nil, h.le, h.cap, fun a ha => ⟨(h.out a ha).1, (h.out a ha).2.1, Nat.lt_of_lt_of_le (h.out a ha).2.2 hb.size⟩⟩
theorem Vol.grown {w w' : World} {b : Nat} {U : Nat → Prop} {A : Option Addr} {n c : Nat} {l : List Nat} {row : Option Nat} (h : Vol w b U A n c l) (hg : w.grownBy w' row) (hr : ∀ k, row = some k → k = b ∨ ¬ U k) : Vol w' b U A n c l :=
  ⟨h.ns.grown hg (fun a ha e => by
    obtain ⟨h1, h2, _⟩ := h.out a ha
    rcases hr _ e.symm with h3 | h3
    · exact h1 h3
    · exact h3 h2), h.nil, h.le, h.cap, fun a ha => ⟨(h.out a ha).1, (h.out a ha).2.1, Nat.lt_of_lt_of_le (h.out a ha).2.2 hg.size⟩⟩
theorem Vol.mono {w : World} {b : Nat} {U U' : Nat → Prop} {A : Option Addr} {n c : Nat} {l : List Nat} (h : Vol w b U A n c l) (hu : ∀ k, k < w.heap.size → U k → U' k) : Vol w b U' A n c l :=
  ⟨h.ns, h.nil, h.le, h.cap, fun a ha => ⟨(h.out a ha).1, hu _ (h.out a ha).2.2 (h.out a ha).2.1, (h.out a ha).2.2⟩⟩
theorem Vol.own {w : World} {b base : Nat} {U : Nat → Prop} {A : Option Addr} {n c : Nat} {l : List Nat} (h : w.ownsRow base 62 1 (.slice A n c) n (nvs l)) (hl : ∀ z ∈ l, z < 18446744073709551616) (hb : b < base) (hu : ∀ k, base ≤ k → U k) : Vol w b U A n c l := by
  obtain ⟨A', c', e, h1, h2, h3⟩ := own_form h
  injection e with e1 _ e3
  subst e1 e3
  unfold maxLen at h2
  refine ⟨no_ns h hl, h3, h1, by omega, fun a ha => ?_⟩
  subst ha
  obtain ⟨h4, h5⟩ := h.lt a.block rfl
  exact ⟨by omega, hu _ h4, h5⟩

abbrev bea (s : BS) (V0 V1 V2 : Value) : Array Value := #[.bool true, .int .i64 s.sh, .int .i64 s.ve, .int .i64 s.num, V0, .int .i64 s.c.num, V1, .int .i64 (s.c.ct : Int), .int .i64 (s.c.en : Int), .int .i64 s.y.num, V2, .int .i64 (s.y.ct : Int), .int .i64 (s.y.en : Int)]
/-- A berth that New gave, in block b. -/
structure BeX (w : World) (b : Nat) (U : Nat → Prop) (s : BS) (A0 : Option Addr) (n0 c0 : Nat) (A1 : Option Addr) (n1 c1 : Nat) (A2 : Option Addr) (n2 c2 : Nat) : Prop where
  blk : Blk w b 59 (bea s (.slice A0 n0 c0) (.slice A1 n1 c1) (.slice A2 n2 c2))
  v0 : Vol w b U A0 n0 c0 s.vol
  v1 : Vol w b U A1 n1 c1 s.c.vol
  v2 : Vol w b U A2 n2 c2 s.y.vol
  ok : Ok s
def Be (w : World) (b : Nat) (U : Nat → Prop) (s : BS) : Prop := ∃ A0 n0 c0 A1 n1 c1 A2 n2 c2, BeX w b U s A0 n0 c0 A1 n1 c1 A2 n2 c2
theorem Be.lt {w : World} {b : Nat} {U : Nat → Prop} {s : BS} (h : Be w b U s) : b < w.heap.size := by
  obtain ⟨_, _, _, _, _, _, _, _, _, h⟩ := h
  exact h.blk.lt
theorem Be.ok {w : World} {b : Nat} {U : Nat → Prop} {s : BS} (h : Be w b U s) : Ok s := by
  obtain ⟨_, _, _, _, _, _, _, _, _, h⟩ := h
  exact h.ok
theorem Be.below {w w' : World} {b : Nat} {U : Nat → Prop} {s : BS} (h : Be w b U s) (hb : Below w.heap.size w w') : Be w' b U s := by
  obtain ⟨_, _, _, _, _, _, _, _, _, h⟩ := h
  exact ⟨_, _, _, _, _, _, _, _, _, h.blk.keep hb, h.v0.below hb, h.v1.below hb, h.v2.below hb, h.ok⟩
theorem Be.alloc {w : World} {b : Nat} {U : Nat → Prop} {s : BS} (h : Be w b U s) (o : Obj) : Be (w.alloc o) b U s := h.below ((Below.refl _ _).alloc (Nat.le_refl _) _)
theorem Be.drewN {w : World} {b : Nat} {U : Nat → Prop} {s : BS} (h : Be w b U s) (k : Nat) : Be (w.drewN k) b U s := h.below (below_drewN (Below.refl _ _) k)
theorem Be.drew {w : World} {b : Nat} {U : Nat → Prop} {s : BS} (h : Be w b U s) : Be w.drew b U s := h.drewN 1
theorem Be.grown {w w' : World} {b : Nat} {U : Nat → Prop} {s : BS} {g : Nat} (h : Be w b U s) (hg : w.grownBy w' (some g)) (hb : g ≠ b) (hu : ¬ U g) : Be w' b U s := by
  obtain ⟨_, _, _, _, _, _, _, _, _, h⟩ := h
  have hr : ∀ k, some g = some k → k = b ∨ ¬ U k := fun k hk => by injection hk with hk; subst hk; exact .inr hu
  exact ⟨_, _, _, _, _, _, _, _, _, h.blk.grown hg (fun e => hb (by injection e with e; exact e.symm)), h.v0.grown hg hr, h.v1.grown hg hr, h.v2.grown hg hr, h.ok⟩
theorem Be.mono {w : World} {b : Nat} {U U' : Nat → Prop} {s : BS} (h : Be w b U s) (hu : ∀ k, k < w.heap.size → U k → U' k) : Be w b U' s := by
  obtain ⟨_, _, _, _, _, _, _, _, _, h⟩ := h
  exact ⟨_, _, _, _, _, _, _, _, _, h.blk, h.v0.mono hu, h.v1.mono hu, h.v2.mono hu, h.ok⟩
theorem bea_set4 {w : World} {b : Nat} {t : TypeId} {x0 x1 x2 x3 x4 x5 x6 x7 x8 x9 x10 x11 x12 : Value} (h : Blk w b t #[x0, x1, x2, x3, x4, x5, x6, x7, x8, x9, x10, x11, x12]) (u0 u1 u2 u3 : Value) :
    Blk ((((w.setCell ⟨b, 5, none⟩ u0).setCell ⟨b, 6, none⟩ u1).setCell ⟨b, 7, none⟩ u2).setCell ⟨b, 8, none⟩ u3) b t #[x0, x1, x2, x3, x4, u0, u1, u2, u3, x9, x10, x11, x12] :=
  (((h.setCell 5 u0).setCell 6 u1).setCell 7 u2).setCell 8 u3
theorem grown4 (w : World) (b o0 o1 o2 o3 : Nat) (u0 u1 u2 u3 : Value) : w.grownBy ((((w.setCell ⟨b, o0, none⟩ u0).setCell ⟨b, o1, none⟩ u1).setCell ⟨b, o2, none⟩ u2).setCell ⟨b, o3, none⟩ u3) (some b) := by
  have h := fun (W : World) (o : Nat) (u : Value) => grown_setCell W ⟨b, o, none⟩ u
  exact World.grownBy.trans (World.grownBy.trans (World.grownBy.trans (h _ _ _) (h _ _ _)) (h _ _ _)) (h _ _ _)
section
variable (w : World) (b : Nat) (U : Nat → Prop) (s : BS)
set_option maxRecDepth 100000 in
theorem given_ (h : Be w b U s) : Calls Try.prog 23 #[.pointer (some ⟨b, 0, none⟩)] w fun e w' => e = .returned (.bool true) ∧ w = w' := by
  obtain ⟨A0, n0, c0, A1, n1, c1, A2, n2, c2, h⟩ := h
  have d0 := h.blk.cell (j := 0) (u := .bool true) rfl
  go_enter Try.func23, Try.ntmps23
  go_wp2
  go_ret
  exact ⟨rfl, rfl⟩
set_option maxRecDepth 100000 in
theorem given_nil : Calls Try.prog 23 #[.pointer none] w fun e w' => e = .returned (.bool false) ∧ w = w' := by
  go_enter Try.func23, Try.ntmps23
  go_wp2
  go_ret
  exact ⟨rfl, rfl⟩
set_option maxRecDepth 100000 in
theorem given_zero (d0 : w.cell? ⟨b, 0, none⟩ = some (.bool false)) : Calls Try.prog 23 #[.pointer (some ⟨b, 0, none⟩)] w fun e w' => e = .returned (.bool false) ∧ w = w' := by
  go_enter Try.func23, Try.ntmps23
  go_wp2
  go_ret
  exact ⟨rfl, rfl⟩
set_option maxRecDepth 100000 in
theorem snap_ (h : Be w b U s) : Calls Try.prog 16 #[.pointer (some ⟨b, 0, none⟩)] w fun e w' => e = .returned (.int .i64 s.num) ∧ w = w' := by
  have h0 := h
  obtain ⟨A0, n0, c0, A1, n1, c1, A2, n2, c2, h⟩ := h
  have d3 := h.blk.cell (j := 3) (u := .int .i64 s.num) rfl
  clear h
  go_enter Try.func16, Try.ntmps16
  go_wp2_with fail
  refine (given_ w b U s h0).mono ?_
  rintro e w' ⟨rfl, rfl⟩
  go_wp2
  go_ret
  exact ⟨rfl, rfl⟩
set_option maxRecDepth 100000 in
theorem coming_ (h : Be w b U s) : Calls Try.prog 18 #[.pointer (some ⟨b, 0, none⟩)] w fun e w' => e = .returned (.tuple #[.int .i64 s.c.num, .int .i64 (s.c.ct : Int)]) ∧ ∃ k, w' = w.drewN k := by
  have h0 := h
  obtain ⟨A0, n0, c0, A1, n1, c1, A2, n2, c2, h⟩ := h
  have d5 := h.blk.cell (j := 5) (u := .int .i64 s.c.num) rfl
  have d7 := h.blk.cell (j := 7) (u := .int .i64 (s.c.ct : Int)) rfl
  clear h
  go_enter Try.func18, Try.ntmps18
  go_wp2_with fail
  refine (given_ w b U s h0).mono ?_
  rintro e w' ⟨rfl, rfl⟩
  go_wp2_with fail
  go_quiet (fail)
  go_wp2
  go_ret2
  exact ⟨rfl, _, rfl⟩
end
end Lan
end Go.Proofs.Ytganoklclnbjkaa

set_option linter.all false
namespace Go.Proofs.Ytganoklclnbjkaa
open Go.RowKit
namespace Lan
open Str (Rec mayB opOf)
open Blo (I64 apL apE)
theorem bea_setY {w : World} {b : Nat} {t : TypeId} {x0 x1 x2 x3 x4 x5 x6 x7 x8 x9 x10 x11 x12 : Value} (h : Blk w b t #[x0, x1, x2, x3, x4, x5, x6, x7, x8, x9, x10, x11, x12]) (u0 u1 u2 u3 : Value) :
    Blk ((((w.setCell ⟨b, 9, none⟩ u0).setCell ⟨b, 10, none⟩ u1).setCell ⟨b, 11, none⟩ u2).setCell ⟨b, 12, none⟩ u3) b t #[x0, x1, x2, x3, x4, x5, x6, x7, x8, u0, u1, u2, u3] :=
  (((h.setCell 9 u0).setCell 10 u1).setCell 11 u2).setCell 12 u3
theorem self_row {b : Nat} {U : Nat → Prop} : ∀ k, some b = some k → k = b ∨ ¬ U k := fun k hk => by injection hk with hk; exact .inl hk.symm
section
variable (w : World) (b : Nat) (U : Nat → Prop) (s : BS)
set_option maxRecDepth 100000 in
theorem sync_ (h : Be w b U s) : Calls Try.prog 13 #[.pointer (some ⟨b, 0, none⟩)] w fun e w' => e = .returned (.int .i64 (s.c.ct : Int)) ∧ Be w' b U (syncS s) ∧ w.grownBy w' (some b) := by
  have h0 := h
  obtain ⟨A0, n0, c0, A1, n1, c1, A2, n2, c2, h⟩ := h
  have d5 := h.blk.cell (j := 5) (u := .int .i64 s.c.num) rfl
  have d6 := h.blk.cell (j := 6) (u := .slice A1 n1 c1) rfl
  have d7 := h.blk.cell (j := 7) (u := .int .i64 (s.c.ct : Int)) rfl
  have d8 := h.blk.cell (j := 8) (u := .int .i64 (s.c.en : Int)) rfl
  have d9 := h.blk.cell (j := 9) (u := .int .i64 s.y.num) rfl
  have d10 := h.blk.cell (j := 10) (u := .slice A2 n2 c2) rfl
  have d11 := h.blk.cell (j := 11) (u := .int .i64 (s.y.ct : Int)) rfl
  have d12 := h.blk.cell (j := 12) (u := .int .i64 (s.y.en : Int)) rfl
  have hz := h.blk.free
  have hset := bea_setY h.blk (.int .i64 s.c.num) (.slice A1 n1 c1) (.int .i64 (s.c.ct : Int)) (.int .i64 (s.c.en : Int))
  have hg := grown4 w b 9 10 11 12 (.int .i64 s.c.num) (.slice A1 n1 c1) (.int .i64 (s.c.ct : Int)) (.int .i64 (s.c.en : Int))
  have hR : Be _ b U (syncS s) := ⟨_, _, _, _, _, _, _, _, _, hset, h.v0.grown hg self_row, h.v1.grown hg self_row, h.v1.grown hg self_row, h.ok.sync⟩
  clear h
  go_enter Try.func13, Try.ntmps13
  go_wp2_with fail
  refine (given_ w b U s h0).mono ?_
  rintro e w' ⟨rfl, rfl⟩
  go_wp2
  go_ret
  exact ⟨rfl, hR, hg⟩
set_option maxRecDepth 100000 in
theorem crash_ (h : Be w b U s) : Calls Try.prog 14 #[.pointer (some ⟨b, 0, none⟩)] w fun e w' => e = .returned (.tuple #[]) ∧ Be w' b U (crashS s) ∧ w.grownBy w' (some b) := by
  have h0 := h
  obtain ⟨A0, n0, c0, A1, n1, c1, A2, n2, c2, h⟩ := h
  have d5 := h.blk.cell (j := 5) (u := .int .i64 s.c.num) rfl
  have d6 := h.blk.cell (j := 6) (u := .slice A1 n1 c1) rfl
  have d7 := h.blk.cell (j := 7) (u := .int .i64 (s.c.ct : Int)) rfl
  have d8 := h.blk.cell (j := 8) (u := .int .i64 (s.c.en : Int)) rfl
  have d9 := h.blk.cell (j := 9) (u := .int .i64 s.y.num) rfl
  have d10 := h.blk.cell (j := 10) (u := .slice A2 n2 c2) rfl
  have d11 := h.blk.cell (j := 11) (u := .int .i64 (s.y.ct : Int)) rfl
  have d12 := h.blk.cell (j := 12) (u := .int .i64 (s.y.en : Int)) rfl
  have hz := h.blk.free
  have hset := bea_set4 h.blk (.int .i64 s.y.num) (.slice A2 n2 c2) (.int .i64 (s.y.ct : Int)) (.int .i64 (s.y.en : Int))
  have hg := grown4 w b 5 6 7 8 (.int .i64 s.y.num) (.slice A2 n2 c2) (.int .i64 (s.y.ct : Int)) (.int .i64 (s.y.en : Int))
  have hR : Be _ b U (crashS s) := ⟨_, _, _, _, _, _, _, _, _, hset, h.v0.grown hg self_row, h.v2.grown hg self_row, h.v2.grown hg self_row, h.ok.crash⟩
  clear h
  go_enter Try.func14, Try.ntmps14
  go_wp2_with fail
  refine (given_ w b U s h0).mono ?_
  rintro e w' ⟨rfl, rfl⟩
  go_wp2
  go_end0
  exact ⟨rfl, hR, hg⟩
set_option maxRecDepth 100000 in
theorem drop_ (h : Be w b U s) : Calls Try.prog 19 #[.pointer (some ⟨b, 0, none⟩)] w fun e w' => e = .returned (.tuple #[]) ∧ Be w' b U (dropS s) ∧ w.grownBy w' (some b) := by
  have h0 := h
  obtain ⟨A0, n0, c0, A1, n1, c1, A2, n2, c2, h⟩ := h
  have d5 := h.blk.cell (j := 5) (u := .int .i64 s.c.num) rfl
  have d6 := h.blk.cell (j := 6) (u := .slice A1 n1 c1) rfl
  have d7 := h.blk.cell (j := 7) (u := .int .i64 (s.c.ct : Int)) rfl
  have d8 := h.blk.cell (j := 8) (u := .int .i64 (s.c.en : Int)) rfl
  have d9 := h.blk.cell (j := 9) (u := .int .i64 s.y.num) rfl
  have d10 := h.blk.cell (j := 10) (u := .slice A2 n2 c2) rfl
  have d11 := h.blk.cell (j := 11) (u := .int .i64 (s.y.ct : Int)) rfl
  have d12 := h.blk.cell (j := 12) (u := .int .i64 (s.y.en : Int)) rfl
  have hz := h.blk.free
  have hset := bea_setY (bea_set4 h.blk (.int .i64 0) (.slice none 0 0) (.int .i64 0) (.int .i64 0)) (.int .i64 0) (.slice none 0 0) (.int .i64 0) (.int .i64 0)
  have hg := World.grownBy.trans (grown4 w b 5 6 7 8 (.int .i64 0) (.slice none 0 0) (.int .i64 0) (.int .i64 0)) (grown4 _ b 9 10 11 12 (.int .i64 0) (.slice none 0 0) (.int .i64 0) (.int .i64 0))
  have hR : Be _ b U (dropS s) := ⟨_, _, _, _, _, _, _, _, _, hset, h.v0.grown hg self_row, Vol.none, Vol.none, h.ok.drop⟩
  clear h
  go_enter Try.func19, Try.ntmps19
  go_wp2_with fail
  refine (given_ w b U s h0).mono ?_
  rintro e w' ⟨rfl, rfl⟩
  go_wp2
  go_end0
  exact ⟨rfl, hR, hg⟩
end
end Lan
end Go.Proofs.Ytganoklclnbjkaa
