/- Layer 12: a shard that nobody made: each method on it. -/
import Derived.Test.YtfcfffilfmbpeaaShaR
set_option linter.all false
namespace Go.Proofs.Ytfcfffilfmbpeaa
open Go.RowKit
namespace Sha
open Blo (vol fun_ GotN AnsN Dat FitB words_)

theorem NoSh.below {w w' : World} {p : Option Addr} (h : NoSh w p) (hb : Below w.heap.size w w') : NoSh w' p := by
  cases p with
  | none => trivial
  | some p =>
    obtain ⟨b, rfl, c0⟩ := h
    exact ⟨b, rfl, (hb.cell (cell_lt c0)).trans c0⟩
section
variable (w : World) (p : Option Addr)
set_option maxRecDepth 100000 in
theorem sread_no (h : NoSh w p) (x y : Int) : Calls Try.prog 10 #[.pointer p, .int .i64 x, .int .i64 y] w fun e w' => e = .returned (.tuple #[.slice none 0 0, .int .i64 2]) ∧ w = w' := by
  have hm := made_no w p h
  go_enter Try.func10, Try.ntmps10
  go_wp2_with fail
  refine hm.mono ?_
  rintro e w' ⟨rfl, rfl⟩
  go_wp2
  go_ret2
  exact ⟨rfl, rfl⟩
set_option maxRecDepth 100000 in
theorem slook_no (h : NoSh w p) (i x y : Int) : Calls Try.prog 12 #[.pointer p, .int .i64 i, .int .i64 x, .int .i64 y] w fun e w' => e = .returned (.tuple #[.slice none 0 0, .int .i64 2]) ∧ w = w' := by
  have hm := made_no w p h
  go_enter Try.func12, Try.ntmps12
  go_wp2_with fail
  refine hm.mono ?_
  rintro e w' ⟨rfl, rfl⟩
  go_wp2
  go_ret2
  exact ⟨rfl, rfl⟩
set_option maxRecDepth 100000 in
theorem since_no (h : NoSh w p) (x y : Int) : Calls Try.prog 20 #[.pointer p, .int .i64 x, .int .i64 y] w fun e w' => e = .returned (.tuple #[.slice none 0 0, .int .i64 2]) ∧ w = w' := by
  have hm := made_no w p h
  go_enter Try.func20, Try.ntmps20
  go_wp2_with fail
  refine hm.mono ?_
  rintro e w' ⟨rfl, rfl⟩
  go_wp2
  go_ret2
  exact ⟨rfl, rfl⟩
set_option maxRecDepth 100000 in
theorem sdo_no (h : ∀ o, NoSh (w.alloc o) p) (x : Array Value) : Calls Try.prog 23 #[.pointer p, .agg x] w fun e w' => e = .returned (.int .i64 2) ∧ Below w.heap.size w w' := by
  have hm := made_no _ p (h (.cells x 31))
  go_enter Try.func23, Try.ntmps23
  go_wp2_with fail
  refine hm.mono ?_
  rintro e w' ⟨rfl, rfl⟩
  go_wp2
  go_ret
  exact ⟨rfl, (Below.refl _ _).alloc (Nat.le_refl _) _⟩
set_option maxRecDepth 100000 in
theorem sflush_no (h : NoSh w p) : Calls Try.prog 29 #[.pointer p] w fun e w' => e = .returned (.int .i64 2) ∧ w = w' := by
  have hm := made_no w p h
  go_enter Try.func29, Try.ntmps29
  go_wp2_with fail
  refine hm.mono ?_
  rintro e w' ⟨rfl, rfl⟩
  go_wp2
  go_ret
  exact ⟨rfl, rfl⟩
set_option maxRecDepth 100000 in
theorem sfreeze_no (h : NoSh w p) (y : Bool) : Calls Try.prog 22 #[.pointer p, .bool y] w fun e w' => e = .returned (.int .i64 2) ∧ w = w' := by
  have hm := made_no w p h
  go_enter Try.func22, Try.ntmps22
  go_wp2_with fail
  refine hm.mono ?_
  rintro e w' ⟨rfl, rfl⟩
  go_wp2
  go_ret
  exact ⟨rfl, rfl⟩
set_option maxRecDepth 100000 in
theorem sfrozen_no (h : NoSh w p) : Calls Try.prog 19 #[.pointer p] w fun e w' => e = .returned (.bool false) ∧ w = w' := by
  have hm := made_no w p h
  go_enter Try.func19, Try.ntmps19
  go_wp2_with fail
  refine hm.mono ?_
  rintro e w' ⟨rfl, rfl⟩
  go_wp2
  go_ret
  exact ⟨rfl, rfl⟩
set_option maxRecDepth 100000 in
theorem ssnap_no (h : NoSh w p) (i : Int) : Calls Try.prog 24 #[.pointer p, .int .i64 i] w fun e w' => e = .returned (.int .i64 2) ∧ w = w' := by
  have hm := made_no w p h
  go_enter Try.func24, Try.ntmps24
  go_wp2_with fail
  refine hm.mono ?_
  rintro e w' ⟨rfl, rfl⟩
  go_wp2
  go_ret
  exact ⟨rfl, rfl⟩
set_option maxRecDepth 100000 in
theorem sdelete_no (h : ∀ o, NoSh (w.alloc o) p) (i : Int) : Calls Try.prog 30 #[.pointer p, .int .i64 i] w fun e w' => e = .returned (.int .i64 2) ∧ Below w.heap.size w w' := by
  have hm := made_no _ p (h (.cells #[.int .i64 i] 3))
  go_enter Try.func30, Try.ntmps30
  go_wp2_with fail
  refine hm.mono ?_
  rintro e w' ⟨rfl, rfl⟩
  go_wp2
  go_ret
  exact ⟨rfl, (Below.refl _ _).alloc (Nat.le_refl _) _⟩
set_option maxRecDepth 100000 in
theorem srollback_no (h : NoSh w p) (i : Int) : Calls Try.prog 31 #[.pointer p, .int .i64 i] w fun e w' => e = .returned (.int .i64 2) ∧ w = w' := by
  have hm := made_no w p h
  go_enter Try.func31, Try.ntmps31
  go_wp2_with fail
  refine hm.mono ?_
  rintro e w' ⟨rfl, rfl⟩
  go_wp2
  go_ret
  exact ⟨rfl, rfl⟩
set_option maxRecDepth 100000 in
theorem scrash_no (h : NoSh w p) (v : Value) : Calls Try.prog 17 #[.pointer p, v] w fun e w' => e = .returned (.tuple #[]) ∧ w = w' := by
  have hm := made_no w p h
  go_enter Try.func17, Try.ntmps17
  go_wp2_with fail
  refine hm.mono ?_
  rintro e w' ⟨rfl, rfl⟩
  go_wp2
  refine bodyPost_ret (results_none rfl _ _ _) rfl ?_
  exact ⟨rfl, rfl⟩
set_option maxRecDepth 100000 in
theorem ssnaps_no (h : NoSh w p) : Calls Try.prog 14 #[.pointer p] w fun e w' => e = .returned (.slice none 0 0) ∧ w = w' := by
  have hm := made_no w p h
  go_enter Try.func14, Try.ntmps14
  go_wp2_with fail
  refine hm.mono ?_
  rintro e w' ⟨rfl, rfl⟩
  go_wp2
  go_ret
  exact ⟨rfl, rfl⟩
set_option maxRecDepth 100000 in
theorem sdirty_no (h : NoSh w p) : Calls Try.prog 18 #[.pointer p] w fun e w' => e = .returned (.int .i64 0) ∧ w = w' := by
  have hm := made_no w p h
  go_enter Try.func18, Try.ntmps18
  go_wp2_with fail
  refine hm.mono ?_
  rintro e w' ⟨rfl, rfl⟩
  go_wp2
  go_ret
  exact ⟨rfl, rfl⟩
set_option maxRecDepth 100000 in
set_option maxHeartbeats 4000000 in
/-- A call of the script whose kind answers an error. -/
theorem does_no (h : NoSh w p) (a : Actn) (X : Option Addr) (m c : Nat) (K : Option Addr) (kn kc : Nat) (hk : a.kd < 6) :
    Calls Try.prog 11 #[.pointer p, .agg (actC a X m c K kn kc)] w fun e w' => e = .returned (.int .i64 2) ∧ Below w.heap.size w w' := by
  have hb0 : Below w.heap.size w (w.alloc (.cells (actC a X m c K kn kc) 34)) := (Below.refl _ _).alloc (Nat.le_refl _) _
  have hq0 := Blk.new w 34 (actC a X m c K kn kc) rfl
  obtain ⟨w0, hw0⟩ : ∃ w0, w.alloc (.cells (actC a X m c K kn kc) 34) = w0 := ⟨_, rfl⟩
  rw [hw0] at hb0 hq0
  simp only [actC] at hw0 hq0
  have h0 := h.below hb0
  have c0 := hq0.cell (j := 0) (u := .int .u8 (a.kd : Int)) rfl
  have c1 := hq0.cell (j := 1) (u := .int .i64 a.op.kind) rfl
  have c2 := hq0.cell (j := 2) (u := .int .i64 a.op.off) rfl
  have c3 := hq0.cell (j := 3) (u := .int .i64 a.op.len) rfl
  have c4 := hq0.cell (j := 4) (u := .slice X m c) rfl
  have c5 := hq0.cell (j := 5) (u := .int .i64 a.id) rfl
  have c6 := hq0.cell (j := 6) (u := .bool a.yes) rfl
  have c7 := hq0.cell (j := 7) (u := .slice K kn kc) rfl
  have hcases : a.kd % 8 = 0 ∨ a.kd % 8 = 1 ∨ a.kd % 8 = 2 ∨ a.kd % 8 = 3 ∨ a.kd % 8 = 4 ∨ a.kd % 8 = 5 := by omega
  rcases hcases with hr | hr | hr | hr | hr | hr
  all_goals (
    have q := kd_test hr
    clear hr hk
    go_enter Try.func11, Try.ntmps11
    go_wp2_with fail
    first
    | refine (sdo_no _ p (fun o => h0.below ((Below.refl _ _).alloc (Nat.le_refl _) o)) _).mono ?_
    | refine (sflush_no _ p h0).mono ?_
    | refine (sfreeze_no _ p h0 _).mono ?_
    | refine (ssnap_no _ p h0 _).mono ?_
    | refine (srollback_no _ p h0 _).mono ?_
    | refine (sdelete_no _ p (fun o => h0.below ((Below.refl _ _).alloc (Nat.le_refl _) o)) _).mono ?_
    first
    | (rintro e w' ⟨rfl, rfl⟩
       have hbf := hb0)
    | (rintro e w' ⟨rfl, hb1⟩
       have hbf := below_step hb0 hb1 (Nat.le_refl _))
    go_wp2
    go_ret
    exact ⟨rfl, hbf⟩)
end
end Sha
end Go.Proofs.Ytfcfffilfmbpeaa
