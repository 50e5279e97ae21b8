/- Layer 7: what CowMany shares: a row of places, wanted or not; lists of single blocks. -/
import Derived.Test.YtiehhmchokbafaaCowAf
import Derived.Test.YtiehhmchokbafaaAlcM
set_option linter.all false
namespace Go.Proofs.Ytiehhmchokbafaa
open Go.ChangeShapes Go.WideShapes Go.ChangeAt Go.RowKit

def wantV (s : Nat → Bool) : Nat → Value := fun i => .bool (s i)
theorem want_info : ∃ i, Try.prog.info? 59 = some i ∧ ∃ z, i.zero = some z ∧ z.cells = rowA 512 (wantV fun _ => false) := by
  have h : (Try.prog.info? 59).bind (fun i => i.zero.map Value.cells) = some (rowA 512 (wantV fun _ => false)) := by kernel_rfl
  cases hi : Try.prog.info? 59 with
  | none => rw [hi] at h; cases h
  | some i =>
    rw [hi] at h
    cases hz : i.zero with
    | none => simp [hz] at h
    | some z => simp [hz] at h; exact ⟨i, rfl, z, hz, h⟩
theorem size_want : (Try.prog.info? 59).map (·.size) = some 512 := by kernel_rfl
theorem wf_u16 (z : Int) (h : (Lit.int .u16 z).wf = true) : 0 ≤ z ∧ z < ((65536 : Nat) : Int) := by
  have := bounds_u16 h
  omega
theorem ops_u16s : Opens Try.prog 58 (Shp.slice (Shp.nat .u16 65536) 2) := opens_slice 2 Try.underlying58 (by kernel_rfl) (by kernel_rfl) (by decide) (opens_nat 65536 Try.underlying60 (by kernel_rfl) wf_u16)
theorem u16s_later {W w : World} {S : Option Addr} {n c : Nat} {l : List Nat} (h : (Shp.slice (Shp.nat .u16 65536) 2).R W [.slice S n c] l) (hb : Below W.heap.size W w) {k : Nat} (hk : k < n) :
    ∃ b o, S = some ⟨b, o, none⟩ ∧ ∃ v : Nat, v < 65536 ∧ w.cell? ⟨b, o + k, none⟩ = some (.int .u16 (v : Int)) := by
  obtain ⟨A', c', e, h1, h2, h3, h4, h5⟩ := h
  simp only [List.cons.injEq, Value.slice.injEq, and_true] at e
  obtain ⟨rfl, rfl, rfl⟩ := e
  obtain ⟨b, o, vs, rfl, hl, hc, hr⟩ := h5 k hk
  obtain ⟨rfl, q1⟩ := hr
  have := hc 0 _ rfl
  have e1 : (Shp.nat .u16 65536).n = 1 := rfl
  rw [e1, Nat.mul_one, Nat.add_zero] at this
  exact ⟨b, o, rfl, l[k], q1, (hb.cell (cell_lt this)).trans this⟩
theorem u16s_len {A : Option Addr} {w : World} {n c : Nat} {l : List Nat} (h : (Shp.slice (Shp.nat .u16 65536) 2).R w [.slice A n c] l) : n ≤ 9223372036854775807 ∧ n ≤ c ∧ (A = none → c = 0) := by
  obtain ⟨A', c', e, h1, h2, h3, h4, h5⟩ := h
  simp only [List.cons.injEq, Value.slice.injEq, and_true] at e
  obtain ⟨rfl, rfl, rfl⟩ := e
  exact ⟨by omega, h1, h4⟩
/-- The places that are put, in order: so many of them lie ahead of i. -/
def aheadOf (s : Nat → Bool) (i : Nat) : Nat := ((List.range i).filter s).length
theorem ahead_zero (s : Nat → Bool) : aheadOf s 0 = 0 := rfl
theorem ahead_step (s : Nat → Bool) (i : Nat) : aheadOf s (i + 1) = aheadOf s i + if s i then 1 else 0 := by
  unfold aheadOf
  rw [List.range_succ, List.filter_append, List.length_append]
  congr 1
  cases h : s i <;> simp [h]
theorem lones_len (s : Nat → Bool) : (lones s).length = aheadOf s 512 := by unfold lones aheadOf; simp
theorem ahead_mono (s : Nat → Bool) {i j : Nat} (h : i ≤ j) : aheadOf s i ≤ aheadOf s j := by
  induction h with
  | refl => exact Nat.le_refl _
  | step _ ih => rw [Nat.succ_eq_add_one, ahead_step]; omega
theorem lones_at_ (s : Nat → Bool) {i : Nat} (hi : i < 512) (hs : s i = true) : (lones s)[aheadOf s i]? = some (lone i) := by
  unfold lones
  rw [show (512 : Nat) = i + (512 - i) by omega, List.range_add, List.filter_append, List.map_append]
  rw [List.getElem?_append_right (by simp [aheadOf])]
  have e0 : aheadOf s i - (((List.range i).filter s).map lone).length = 0 := by simp [aheadOf]
  rw [e0]
  obtain ⟨n, hn⟩ : ∃ n, 512 - i = n + 1 := ⟨512 - i - 1, by omega⟩
  rw [hn, List.range_succ_eq_map]
  simp [hs]
theorem want_index (w : World) (s : Nat → Bool) (i : Nat) (hi : i < 512) : (Instr.index 59 (.agg (rowA 512 (wantV s))) (.int .i64 (i : Int))).run Try.prog w = .ok (.bool (s i)) w := by
  obtain ⟨j, hj, hs⟩ := Option.map_eq_some_iff.1 (show (Try.prog.info? 4).map (·.size) = some 1 by kernel_rfl)
  have h1 : (0 : Int) ≤ (i : Int) ∧ (i : Int) < 512 := by omega
  have h2 := rowA_at (wantV s) hi
  simp [Instr.index, run_underlying Try.underlying59, go_sem, h1, h2, sizeOf, typeInfo, hj, hs, run_underlying Try.underlying4]
  rw [if_pos hi]
  rfl
end Go.Proofs.Ytiehhmchokbafaa
