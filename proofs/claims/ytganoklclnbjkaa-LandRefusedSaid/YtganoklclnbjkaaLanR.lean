/- Layer 11: the document's number and May. -/
import Derived.Test.YtganoklclnbjkaaLanK
import Derived.BigRegion
set_option linter.all false
namespace Go.Proofs.Ytganoklclnbjkaa
open Go.RowKit
namespace Lan
open Str (Rec mayB opOf FitR Rdt Rcl ra oa k4 k8 rc_blk farB zeroB)
open Blo (I64 apL apE GotN AnsN)
/-- A record's numbers that one of its kind may have. -/
def xr1 (r : Rec) : Rec := ⟨r.k, r.sh, r.sn, r.ba, r.ma, 0, r.len, []⟩
def xr2 (r : Rec) : Rec := ⟨r.k, 0, 0, 0, 0, r.off, 0, r.d⟩
def xr3 (r : Rec) : Rec := ⟨r.k, 0, 0, 0, 0, r.off, r.len, []⟩
def xr4 (r : Rec) : Rec := ⟨r.k, 0, 0, 0, 0, 0, r.len, []⟩
theorem xr1_iff (r : Rec) : xr1 r = r ↔ r.off = 0 ∧ r.d = [] := by cases r; simp [xr1, eq_comm]
theorem xr2_iff (r : Rec) : xr2 r = r ↔ r.sh = 0 ∧ r.sn = 0 ∧ r.ba = 0 ∧ r.ma = 0 ∧ r.len = 0 := by cases r; simp [xr2, eq_comm]
theorem xr3_iff (r : Rec) : xr3 r = r ↔ r.sh = 0 ∧ r.sn = 0 ∧ r.ba = 0 ∧ r.ma = 0 ∧ r.d = [] := by cases r; simp [xr3, eq_comm]
theorem xr4_iff (r : Rec) : xr4 r = r ↔ r.sh = 0 ∧ r.sn = 0 ∧ r.ba = 0 ∧ r.ma = 0 ∧ r.off = 0 ∧ r.d = [] := by cases r; simp [xr4, eq_comm]
def farsB (r : Rec) : Bool := farB r.sh && (farB r.sn && (farB r.ba && (farB r.ma && (farB r.off && farB r.len))))
theorem len0 (r : Rec) : (r.d.length : Int) = 0 ↔ r.d = [] := by rw [← List.length_eq_zero_iff]; omega
theorem may_x1 {r : Rec} (h : r.k = 1) : mayB r = (decide (xr1 r = r) && farsB r) := by
  rw [Str.may_is, Bool.eq_iff_iff]
  unfold Str.manyB farsB
  rw [if_pos h]
  simp only [List.all_cons, List.all_nil, zeroB, Bool.and_eq_true, decide_eq_true_eq, and_true, xr1_iff, len0]
  constructor
  · rintro ⟨⟨a, b, c, d, e, f⟩, g, i⟩; exact ⟨⟨g, i⟩, a, b, c, d, e, f⟩
  · rintro ⟨⟨g, i⟩, a, b, c, d, e, f⟩; exact ⟨⟨a, b, c, d, e, f⟩, g, i⟩
theorem may_x2 {r : Rec} (h : r.k = 2) : mayB r = ((decide (1 ≤ r.d.length) && decide (r.d.length ≤ 64)) && (decide (xr2 r = r) && farsB r)) := by
  rw [Str.may_is, Bool.eq_iff_iff]
  unfold Str.manyB farsB
  rw [if_neg (by omega), if_pos h]
  simp only [List.all_cons, List.all_nil, zeroB, Bool.and_eq_true, decide_eq_true_eq, and_true, xr2_iff, len0]
  constructor
  · rintro ⟨⟨a, b, c, d, e, f⟩, ⟨g, i, j, k, l⟩, m⟩; exact ⟨m, ⟨g, i, j, k, l⟩, a, b, c, d, e, f⟩
  · rintro ⟨m, ⟨g, i, j, k, l⟩, a, b, c, d, e, f⟩; exact ⟨⟨a, b, c, d, e, f⟩, ⟨g, i, j, k, l⟩, m⟩
theorem may_x3 {r : Rec} (h : r.k = 3) : mayB r = (decide (1 ≤ r.len) && (decide (xr3 r = r) && farsB r)) := by
  rw [Str.may_is, Bool.eq_iff_iff]
  unfold Str.manyB farsB
  rw [if_neg (by omega), if_neg (by omega), if_pos h]
  simp only [List.all_cons, List.all_nil, zeroB, Bool.and_eq_true, decide_eq_true_eq, and_true, xr3_iff, len0]
  constructor
  · rintro ⟨⟨a, b, c, d, e, f⟩, ⟨g, i, j, k, l⟩, m⟩; exact ⟨m, ⟨g, i, j, k, l⟩, a, b, c, d, e, f⟩
  · rintro ⟨m, ⟨g, i, j, k, l⟩, a, b, c, d, e, f⟩; exact ⟨⟨a, b, c, d, e, f⟩, ⟨g, i, j, k, l⟩, m⟩
theorem may_x4 {r : Rec} (h : r.k = 4) : mayB r = (decide (xr4 r = r) && farsB r) := by
  rw [Str.may_is, Bool.eq_iff_iff]
  unfold Str.manyB farsB
  rw [if_neg (by omega), if_neg (by omega), if_neg (by omega), if_pos h]
  simp only [List.all_cons, List.all_nil, zeroB, Bool.and_eq_true, decide_eq_true_eq, and_true, xr4_iff, len0]
  constructor
  · rintro ⟨⟨a, b, c, d, e, f⟩, g⟩; exact ⟨g, a, b, c, d, e, f⟩
  · rintro ⟨g, a, b, c, d, e, f⟩; exact ⟨⟨a, b, c, d, e, f⟩, g⟩
theorem may_x5 {r : Rec} (h1 : ¬ r.k = 1) (h2 : ¬ r.k = 2) (h3 : ¬ r.k = 3) (h4 : ¬ r.k = 4) : mayB r = false := by
  rw [Str.may_is]
  unfold Str.manyB
  rw [if_neg h1, if_neg h2, if_neg h3, if_neg h4, Bool.and_false]
theorem zi64 : I64 0 := by unfold I64; omega
theorem xr_dat {w : World} {r x : Rec} (h : FitR r) (hd : x.d = []) (hk : x.k = r.k) (h1 : x.sh = r.sh ∨ x.sh = 0) (h2 : x.sn = r.sn ∨ x.sn = 0) (h3 : x.ba = r.ba ∨ x.ba = 0) (h4 : x.ma = r.ma ∨ x.ma = 0) (h5 : x.off = r.off ∨ x.off = 0) (h6 : x.len = r.len ∨ x.len = 0) : Rdt w x none 0 0 := by
  have g : ∀ {a b : Int}, a = b ∨ a = 0 → I64 b → I64 a := fun h hb => by rcases h with h | h <;> rw [h]; exact hb; exact zi64
  exact rdt_nil w x hd ⟨by rw [hk]; exact h.k, g h1 h.sh, g h2 h.sn, g h3 h.ba, g h4 h.ma, g h5 h.off, g h6 h.len⟩
theorem xr2_dat {w : World} {r : Rec} {X : Option Addr} {m c : Nat} (h : Rdt w r X m c) : Rdt w (xr2 r) X m c := ⟨h.ns, h.nil, h.le, h.cap, h.by8, ⟨h.fit.k, zi64, zi64, zi64, zi64, h.fit.off, zi64⟩⟩
section
variable (w : World)
set_option maxRecDepth 100000 in
theorem number_ (z : Int) (hz : I64 z) : Calls Try.prog 32 #[.int .i64 z] w fun e w' => e = .returned (.bool (farB z)) ∧ w = w' := by
  unfold I64 at hz
  by_cases h0 : 0 ≤ z <;> by_cases h1 : z ≤ 2147483648 <;>
    (go_enter Try.func32, Try.ntmps32
     go_wp2
     go_ret
     exact ⟨by simp [farB, h0, h1], rfl⟩)
set_option maxRecDepth 100000 in
set_option maxHeartbeats 4000000 in
theorem rmay5_ (r : Rec) (X : Option Addr) (m c : Nat) (h : Rdt w r X m c) (h1 : ¬ r.k = 1) (h2 : ¬ r.k = 2) (h3 : ¬ r.k = 3) (h4 : ¬ r.k = 4) : Calls Try.prog 21 #[.agg (ra r (.slice X m c))] w fun e w' => e = .returned (.bool (mayB r)) ∧ Below w.heap.size w w' := by
  have HQ := Lib.hid (may_x5 h1 h2 h3 h4)
  have k1 : (r.k == 1) = false := by simpa using h1
  have k2 : (r.k == 2) = false := by simpa using h2
  have k3 : (r.k == 3) = false := by simpa using h3
  have k4' : (r.k == 4) = false := by simpa using h4
  clear h1 h2 h3 h4 h
  go_enter Try.func21, Try.ntmps21
  go_wp2
  go_ret
  rw [HQ.out]
  exact ⟨rfl, ((Below.refl _ _).alloc (Nat.le_refl _) _).alloc (by simp) _⟩
end
end Lan
end Go.Proofs.Ytganoklclnbjkaa
