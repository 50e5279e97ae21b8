/- Layer 11: streams that go on from the durable count. -/
import Derived.Test.YtganoklclnbjkaaLanB1
set_option linter.all false
namespace Go.Proofs.Ytganoklclnbjkaa
open Go.RowKit
namespace Lan
open Str (Rec mayB FitR opOf recOp tailR bldL bareR)
open Blo (I64 apL)
def hE : Rec := ⟨1, 3, 7, 0, 2, 0, 30, []⟩
theorem hE_fit : FitR hE := ⟨i64s (by decide) (by decide), i64s (by decide) (by decide), i64s (by decide) (by decide), i64s (by decide) (by decide), i64s (by decide) (by decide), i64s (by decide) (by decide), i64s (by decide) (by decide)⟩
theorem hE_may : mayB hE = true := by decide +kernel
abbrev z30 : List Nat := List.replicate 30 0
/-- The berth, when so many records have come, and so many are durable. -/
def enS (ops : List BOp) (k d : Nat) : BS := ⟨3, 2, 30, 0, z30, posA 7 z30 ops k, posA 7 z30 ops d⟩
def enF (ops : List BOp) : BS := ⟨3, 2, 30, 7, apL z30 ops, a0, a0⟩
theorem enS_0 (ops : List BOp) : newS 3 2 30 = enS ops 0 0 := rfl
theorem en_ct {ops : List BOp} {k d : Nat} (h : k ≤ ops.length + 1) : (enS ops k d).c.ct = k := posA_ct h
/-- The next record is taken. -/
theorem en_next {ops : List BOp} {k d : Nat} {r : Rec} (h : Stm 30 hE ops) (hr : (bldL hE ops)[k]? = some r) (hk : k ≤ ops.length) :
    takE (enS ops k d) (k : Int) r = 0 ∧ takS (enS ops k d) (k : Int) r = enS ops (k + 1) d := by
  rcases bld_at h.bare hr with ⟨rfl, hrd⟩ | ⟨j, hj, rfl, rfl⟩ | ⟨rfl, rfl⟩
  · rw [hrd]
    exact take_head (s := enS ops 0 d) h rfl rfl rfl rfl (show (7 : Int) ≠ 0 by decide) (show (7 : Int) ≠ 0 by decide) (.inl ⟨rfl, rfl⟩)
  · exact take_op (s := enS ops (j + 1) d) h rfl hj rfl
  · omega
/-- The last one lands. -/
theorem en_last {ops : List BOp} {d : Nat} {r : Rec} (h : Stm 30 hE ops) (hr : (bldL hE ops)[ops.length + 1]? = some r) :
    takE (enS ops (ops.length + 1) d) ((ops.length + 1 : Nat) : Int) r = 0 ∧ takS (enS ops (ops.length + 1) d) ((ops.length + 1 : Nat) : Int) r = enF ops := by
  rcases bld_at h.bare hr with ⟨h0, _⟩ | ⟨j, hj, h0, _⟩ | ⟨_, rfl⟩
  · omega
  · omega
  · exact take_tail (s := enS ops (ops.length + 1) d) h rfl (by simp) rfl
/-- One below the durable count is told of as taken twice. -/
theorem en_twice {ops : List BOp} {k d i : Nat} {r : Rec} (h : Stm 30 hE ops) (hr : (bldL hE ops)[i]? = some r) (hk : k ≤ ops.length + 1) (hi : i < k) : takE (enS ops k d) (i : Int) r = 10 :=
  take_twice h hr (by rw [en_ct hk]; exact hi)
end Lan
end Go.Proofs.Ytganoklclnbjkaa
