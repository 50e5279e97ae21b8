/- Layer 6: emap's Form, At and Since. -/
import Derived.Test.YtiehhmchokbafaaEmpF
set_option linter.all false
namespace Go.Proofs.Ytiehhmchokbafaa
open Go.RowKit

/-- What At answers. -/
def atV : Option (Int × Int) → Array Value
  | none => #[.int .i64 0, .int .i64 0, .bool false]
  | some (p, b) => #[.int .i64 p, .int .i64 b, .bool true]
/-- A row of the call's own, as it is laid on. -/
structure Own (w : World) (B : Nat) (v : Value) (l : List Ext) (m : Nat) : Prop where
  row : ∃ n, Eo w B v n l
  mays : mays l
  len : l.length ≤ m
theorem since_cons (x : Ext) (l : List Ext) (b : Int) : sinceL (x :: l) b = if b < x.birth then x :: sinceL l b else sinceL l b := by
  unfold sinceL
  rw [List.filter_cons]
  simp

section
variable (w : World)
set_option maxRecDepth 100000 in
theorem at_no (A : Option Addr) (n c : Nat) (l : List Ext) (o : Int) (h : Es w A n l) (hn : n ≤ 9223372036854775807) (hr : rightB l = false) :
    Calls Try.prog 38 #[.slice A n c, .int .i64 o] w fun e w' => e = .returned (.tuple (atV none)) ∧ Below w.heap.size w w' := by
  go_enter Try.func38, Try.ntmps38
  go_wp2_with fail
  refine (right_ _ A n c l h hn).mono ?_
  rw [hr]
  rintro e w2 ⟨rfl, hb2⟩
  go_wp2
  go_ret3
  exact ⟨rfl, hb2⟩
set_option maxRecDepth 100000 in
set_option maxHeartbeats 2000000 in
theorem at_ok (A : Option Addr) (n c : Nat) (l : List Ext) (o : Int) (h : Es w A n l) (hr : rightB l = true) (ho : I64 o) :
    Calls Try.prog 38 #[.slice A n c, .int .i64 o] w fun e w' => e = .returned (.tuple (atV (atL l o))) ∧ Below w.heap.size w w' := by
  have Hl := Lib.hid h.len
  have hn : n ≤ 1024 := by have := right_short hr; have := Hl.out; omega
  have hml := mays_right hr
  unfold I64 at ho
  go_enter Try.func38, Try.ntmps38
  go_wp2_with fail
  refine (right_ _ A n c l h (by omega)).mono ?_
  rw [hr]
  rintro e w2 ⟨rfl, hb2⟩
  go_wp2_with fail
  go_loopw [14] (fun iv wr => ∃ (k : Nat), k ≤ n ∧ iv = .int .i64 (k : Int) ∧ atL (l.drop k) o = atL l o ∧ Below w.heap.size w wr) (fun iv _ => n - (intOf iv).toNat)
  case atStart => exact ⟨0, Nat.zero_le _, rfl, rfl, hb2⟩
  case round =>
    obtain ⟨k, hk, rfl, hfold, hb⟩ := hrel
    by_cases hlt : k < n
    · have hil : (k : Int) < (n : Int) := by omega
      obtain ⟨q, p, rfl, x, hx, fx, c0, c1, c2, c3⟩ := (h.below hb).at_ hlt
      have hxm := hml x (List.mem_of_getElem? hx)
      have hxl := may_len hxm
      rw [drop_of hx] at hfold
      have hba : Below wr.heap.size wr (wr.alloc (.cells #[.int .i64 x.off, .int .i64 x.len, .int .i64 x.phys, .int .i64 x.birth] 24)) := (Below.refl _ _).alloc (Nat.le_refl _) _
      have hB1 := below_step hb hba (Nat.le_refl _)
      have hwx : IntKind.i64.wrap (x.off + x.len) = x.off + x.len := by rw [IntKind.wrap_i64]; omega
      by_cases h0 : x.off ≤ o
      · by_cases h1 : o < x.off + x.len
        · rw [at_head ⟨h0, h1⟩] at hfold
          have Hf := Lib.hid hfold
          have hw2 : IntKind.i64.wrap (x.phys + o) = x.phys + o := by rw [IntKind.wrap_i64]; omega
          have hw3 : IntKind.i64.wrap (x.phys + o - x.off) = x.phys + o - x.off := by rw [IntKind.wrap_i64]; omega
          clear hfold h hb
          go_wp2_with fail
          go_quiet (fail)
          go_wp2
          go_ret3
          rw [← Hf.out]
          exact ⟨rfl, below_drewN hB1 _⟩
        · rw [at_tail (by omega)] at hfold
          have Hf := Lib.hid hfold
          clear hfold h hb
          go_wp2
          go_roundw
          case rel => exact ⟨k + 1, by omega, by go_num, Hf.out, hB1⟩
          case measure => simp [intOf]; omega
      · rw [at_tail (by omega)] at hfold
        have Hf := Lib.hid hfold
        clear hfold h hb
        go_wp2
        go_roundw
        case rel => exact ⟨k + 1, by omega, by go_num, Hf.out, hB1⟩
        case measure => simp [intOf]; omega
    · have hin : (n : Int) ≤ (k : Int) := by omega
      have hd : l.drop k = [] := list_done Hl.out (by omega)
      rw [hd] at hfold
      have Hf := Lib.hid hfold
      clear hfold hd
      go_wp2
      go_ret3
      rw [← Hf.out]
      exact ⟨rfl, hb⟩
end
end Go.Proofs.Ytiehhmchokbafaa
