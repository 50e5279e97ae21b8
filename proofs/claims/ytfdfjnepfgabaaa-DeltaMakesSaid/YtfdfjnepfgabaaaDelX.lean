/- Layer 9: what the statements share: alive; arguments. -/
import Derived.Test.YtfdfjnepfgabaaaDelW
import Derived.Test.YtfdfjnepfgabaaaFn
set_option linter.all false
namespace Go.Proofs.Ytfdfjnepfgabaaa
open Go.ChangeShapes Go.WideShapes Go.ChangeAt Go.RowKit

/-! ### alive -/
def la9 : List Ext := [⟨0, 4, 0, 1⟩]
def lb9 : List Ext := [⟨0, 2, 0, 1⟩, ⟨2, 1, 9, 2⟩]
def un9 : List Nat := [1, 2, 3, 4, 5, 6, 7, 8, 9, 10]
def o91 : BOp := ⟨1, 2, 0, [10]⟩
def o92 : BOp := ⟨2, 3, 1, []⟩
theorem a9_e : yoE la9 lb9 = 0 := by decide +kernel
theorem a9_l : yoL la9 lb9 1 = [(2, 4)] := by decide +kernel
theorem a9_o : opL la9 lb9 1 un9 = [o91, o92] := by decide +kernel
theorem a9_g : grB la9 lb9 1 = true := by decide +kernel
theorem fit_la9 : ∀ x ∈ la9, Fit x := fun x hx => by
  simp only [la9, List.mem_singleton] at hx
  subst hx
  exact fit_of (by decide +kernel)
theorem fit_lb9 : ∀ x ∈ lb9, Fit x := fun x hx => by
  simp only [lb9, List.mem_cons, List.not_mem_nil, or_false] at hx
  rcases hx with rfl | rfl <;> exact fit_of (by decide +kernel)
theorem fit_o91 : Blo.FitB o91 := ⟨Blo.i64_small (by decide) (by decide), Blo.i64_small (by decide) (by decide), Blo.i64_small (by decide) (by decide)⟩
theorem fit_o92 : Blo.FitB o92 := ⟨Blo.i64_small (by decide) (by decide), Blo.i64_small (by decide) (by decide), Blo.i64_small (by decide) (by decide)⟩
set_option maxRecDepth 100000 in
set_option maxHeartbeats 2000000 in
theorem alive9_ (w : World) : Calls Try.prog 12 #[] w fun e w' => e = .returned (.bool true) ∧ Below w.heap.size w w' := by
  have hx1 : Below w.heap.size w (w.alloc (.cells #[.int .i64 0, .int .i64 4, .int .i64 0, .int .i64 1] 57)) := (Below.refl _ _).alloc (Nat.le_refl _) _
  have ha0 : Es (w.alloc (.cells #[.int .i64 0, .int .i64 4, .int .i64 0, .int .i64 1] 57)) (some ⟨w.heap.size, 0, none⟩) 1 la9 := ⟨Rd.new w #[.int .i64 0, .int .i64 4, .int .i64 0, .int .i64 1] 57 (0, 0) rfl, fit_la9⟩
  have hb0 : Es ((w.alloc (.cells #[.int .i64 0, .int .i64 4, .int .i64 0, .int .i64 1] 57)).alloc (.cells #[.int .i64 0, .int .i64 2, .int .i64 0, .int .i64 1, .int .i64 2, .int .i64 1, .int .i64 9, .int .i64 2] 57)) (some ⟨w.heap.size + 1, 0, none⟩) 2 lb9 := by
    have := Rd.new (w.alloc (.cells #[.int .i64 0, .int .i64 4, .int .i64 0, .int .i64 1] 57)) #[.int .i64 0, .int .i64 2, .int .i64 0, .int .i64 1, .int .i64 2, .int .i64 1, .int .i64 9, .int .i64 2] 57 (0, 0) (sz := 4) (n := 2) rfl
    rw [World.size_alloc] at this
    exact ⟨this, fit_lb9⟩
  have ha1 := ha0.alloc (.cells #[.int .i64 0, .int .i64 2, .int .i64 0, .int .i64 1, .int .i64 2, .int .i64 1, .int .i64 9, .int .i64 2] 57)
  have hx2 := hx1.alloc hx1.size (.cells #[.int .i64 0, .int .i64 2, .int .i64 0, .int .i64 1, .int .i64 2, .int .i64 1, .int .i64 9, .int .i64 2] 57)
  clear ha0 hx1
  go_enter Try.func12, Try.ntmps12
  go_wp2_with fail
  refine (Young_ _ (some ⟨w.heap.size, 0, none⟩) (some ⟨w.heap.size + 1, 0, none⟩) 1 1 2 2 la9 lb9 1 ha1 hb0 (by omega) (by omega)).mono ?_
  rw [a9_e, a9_l]
  rintro e w2 ⟨A2, m2, c2, rfl, hP, hb2⟩
  have hm2 : m2 = 1 := po_len hP
  subst hm2
  have hB2 := below_step hx2 hb2 (Nat.le_refl _)
  have ha2 := ha1.below hb2
  have hb3 := hb0.below hb2
  clear ha1 hb0 hb2 hx2
  have hx3 : Below w2.heap.size w2 (w2.alloc (.cells #[.int .u64 1, .int .u64 2, .int .u64 3, .int .u64 4, .int .u64 5, .int .u64 6, .int .u64 7, .int .u64 8, .int .u64 9, .int .u64 10] 51)) := (Below.refl _ _).alloc (Nat.le_refl _) _
  have hu3 : Ns (w2.alloc (.cells #[.int .u64 1, .int .u64 2, .int .u64 3, .int .u64 4, .int .u64 5, .int .u64 6, .int .u64 7, .int .u64 8, .int .u64 9, .int .u64 10] 51)) (some ⟨w2.heap.size, 0, none⟩) 10 un9 := Ns.new w2 un9 (by simp [un9]) _ rfl rfl rfl
  have ha3 := ha2.below hx3
  have hb4 := hb3.below hx3
  have hP3 := own_keep hP hx3
  have hB3 := below_step hB2 hx3 (Nat.le_refl _)
  clear ha2 hb3 hP hx3
  go_wp2_with fail
  refine (Ops_ _ (some ⟨w.heap.size, 0, none⟩) (some ⟨w.heap.size + 1, 0, none⟩) 1 1 2 2 la9 lb9 1 (some ⟨w2.heap.size, 0, none⟩) 10 10 un9 ha3 hb4 (by omega) (by omega) hu3 (by omega)).mono ?_
  rw [a9_e, a9_o]
  rintro e w4 ⟨A4, m4, c4, rfl, hG, hb5⟩
  have hm4 : m4 = 2 := hG.len
  subst hm4
  have ha4 := ha3.below hb5
  have hb6 := hb4.below hb5
  have hP4 := own_keep hP3 hb5
  have hB4 := below_step hB3 hb5 (Nat.le_refl _)
  clear ha3 hb4 hu3 hP3 hb5
  have hx5 : Below w4.heap.size w4 (w4.alloc (.cells #[.int .i64 2, .int .i64 4, .int .i64 0] 50)) := (Below.refl _ _).alloc (Nat.le_refl _) _
  have hp5 : Rd (w4.alloc (.cells #[.int .i64 2, .int .i64 4, .int .i64 0] 50)) (some ⟨w4.heap.size, 0, none⟩) 3 1 (pvs [(2, 4)]) := Rd.new w4 #[.int .i64 2, .int .i64 4, .int .i64 0] 50 (0, 0) rfl
  have hP5 := rd_own (own_keep hP4 hx5)
  go_wp2_with fail
  refine (rsameP_ _ A2 (some ⟨w4.heap.size, 0, none⟩) 1 1 c2 1 [(2, 4)] hP5 hp5 (by omega)).mono ?_
  rintro e w5 ⟨k5, rfl, hw5⟩
  have hb5 : Below w4.heap.size w4 w5 := by rw [hw5]; exact below_drewN hx5 k5
  have hG5 := hG.keep hb5
  have ha5 := ha4.below hb5
  have hb7 := hb6.below hb5
  have hB5 := below_step hB4 hb5 (Nat.le_refl _)
  clear hx5 hp5 hP5 hG ha4 hb6 hP4 hb5 hw5
  have hx6 : Below w5.heap.size w5 (w5.alloc (.cells #[.int .u64 10] 51)) := (Below.refl _ _).alloc (Nat.le_refl _) _
  have hs6 : (w5.alloc (.cells #[.int .u64 10] 51)).heap.size = w5.heap.size + 1 := by simp
  have d6 : Blo.Dat (w5.alloc (.cells #[.int .u64 10] 51)) o91 (some ⟨w5.heap.size, 0, none⟩) 1 1 := Blo.dat_new rfl rfl rfl (by simp [o91]) (by decide) fit_o91
  have h7 := Blo.os_new2 (t := 76) hs6.symm d6 (Blo.dat_nil _ o92 rfl fit_o92)
  have hb8 : Below w5.heap.size w5 ((w5.alloc (.cells #[.int .u64 10] 51)).alloc (.cells #[.int .i64 o91.kind, .int .i64 o91.off, .int .i64 o91.len, .slice (some ⟨w5.heap.size, 0, none⟩) 1 1, .int .i64 o92.kind, .int .i64 o92.off, .int .i64 o92.len, .slice none 0 0] 76)) := hx6.alloc hx6.size _
  simp only [o91, o92] at h7 hb8
  have hos := (hG5.keep hb8).os
  have ha8 := ha5.below hb8
  have hb9 := hb7.below hb8
  have hB8 := below_step hB5 hb8 (Nat.le_refl _)
  clear hx6 d6 hG5 ha5 hb7 hb8
  go_wp2_with fail
  refine (Blo.same_ _ A4 (some ⟨w5.heap.size + 1, 0, none⟩) 2 2 c4 2 [o91, o92] hos h7 (by omega)).mono ?_
  rintro e w9 ⟨rfl, k9, hw9⟩
  have ha9 : Es w9 (some ⟨w.heap.size, 0, none⟩) 1 la9 := by rw [hw9]; exact ha8.drewN k9
  have hb10 : Es w9 (some ⟨w.heap.size + 1, 0, none⟩) 2 lb9 := by rw [hw9]; exact hb9.drewN k9
  have hB9 : Below w.heap.size w w9 := by rw [hw9]; exact below_drewN hB8 k9
  clear hw9 ha8 hb9 hos h7 hB8
  go_wp2_with fail
  refine (Grown_ _ (some ⟨w.heap.size, 0, none⟩) (some ⟨w.heap.size + 1, 0, none⟩) 1 1 2 2 la9 lb9 1 ha9 hb10 (by omega) (by omega)).mono ?_
  rw [a9_g]
  rintro e w10 ⟨rfl, hb11⟩
  go_wp2
  go_ret
  exact ⟨rfl, below_step hB9 hb11 (Nat.le_refl _)⟩
/-- Like rows of numbers are the same. -/
theorem words_eq (w : World) (A B : Option Addr) (n m c d : Nat) (a : List Nat) (ha : Ns w A n a) (hb : Ns w B m a) (hn : n ≤ 9223372036854775807) :
    Calls Try.prog 11 #[.slice A n c, .slice B m d] w fun e w' => e = .returned (.bool true) ∧ Below w.heap.size w w' := by
  have := Blo.words_ w A B n m c d a a ha hb hn
  rw [decide_eq_true (rfl : a = a)] at this
  exact this.mono fun e w' h => ⟨h.1, by
    obtain ⟨k, hk⟩ := h.2
    rw [hk]
    exact below_drewN (Below.refl _ _) k⟩
theorem rsameB (w : World) (A B : Option Addr) (n m c d : Nat) (l : List (Int × Int)) (ha : Rd w A 3 n (pvs l)) (hb : Rd w B 3 m (pvs l)) (hn : n ≤ 9223372036854775807) :
    Calls Try.prog 19 #[.slice A n c, .slice B m d] w fun e w' => e = .returned (.bool true) ∧ Below w.heap.size w w' :=
  (rsameP_ w A B n m c d l ha hb hn).mono fun e w' h => by
    obtain ⟨k, h1, h2⟩ := h
    exact ⟨h1, by rw [h2]; exact below_drewN (Below.refl _ _) k⟩
theorem sameB (w : World) (A B : Option Addr) (n m c d : Nat) (l : List BOp) (ha : Blo.Opl w A n l) (hb : Blo.Opl w B m l) (hn : n ≤ 9223372036854775807) :
    Calls Try.prog 20 #[.slice A n c, .slice B m d] w fun e w' => e = .returned (.bool true) ∧ Below w.heap.size w w' :=
  (Blo.same_ w A B n m c d l ha hb hn).mono fun e w' h => by
    obtain ⟨h1, k, h2⟩ := h
    exact ⟨h1, by rw [h2]; exact below_drewN (Below.refl _ _) k⟩
theorem enters_Grown : ∀ (vs : Array Value) (w : World), (callFunc 17 vs).run Try.prog w = .ok (.enter 17 vs) w := enters_of Try.func17 (by kernel_rfl) rfl
theorem enters_rGrown : ∀ (vs : Array Value) (w : World), (callFunc 18 vs).run Try.prog w = .ok (.enter 18 vs) w := enters_of Try.func18 (by kernel_rfl) rfl
theorem enters_rsame : ∀ (vs : Array Value) (w : World), (callFunc 19 vs).run Try.prog w = .ok (.enter 19 vs) w := enters_of Try.func19 (by kernel_rfl) rfl
theorem enters_same : ∀ (vs : Array Value) (w : World), (callFunc 20 vs).run Try.prog w = .ok (.enter 20 vs) w := enters_of Try.func20 (by kernel_rfl) rfl
theorem enters_alive : ∀ (vs : Array Value) (w : World), (callFunc 12 vs).run Try.prog w = .ok (.enter 12 vs) w := enters_of Try.func12 (by kernel_rfl) rfl
/-! ### arguments -/
theorem nsU {w : World} {A : Option Addr} {n c : Nat} {l : List Nat} (h : Blo.nsShp.R w [.slice A n c] l) : Ns w A n l ∧ n ≤ 9223372036854775807 := by
  obtain ⟨a1, a2, a3, a4, a5⟩ := Blo.ns_of h
  exact ⟨a1, by omega⟩
theorem esU {w : World} {A : Option Addr} {n c : Nat} {l : List ExtV} (h : (Shp.slice extShp 32).R w [.slice A n c] l) : Es w A n (l.map toExt) ∧ n ≤ 9223372036854775807 := by
  obtain ⟨a1, a2, a3, a4⟩ := exts_es h
  exact ⟨a1, by omega⟩
abbrev TwoV : Type := List ExtV × List ExtV × Unit
def twoShp : Shp TwoV := Shp.agg (Shp.pair (Shp.slice extShp 32) (Shp.pair (Shp.slice extShp 32) Shp.unit))
theorem twoU {w : World} {cs : Array Value} {v : TwoV} (h : twoShp.R w cs.toList v) : ∃ A n c B m d, cs = #[.slice A n c, .slice B m d] ∧ (Es w A n (v.1.map toExt) ∧ n ≤ 9223372036854775807) ∧ (Es w B m (v.2.1.map toExt) ∧ m ≤ 9223372036854775807) := by
  obtain ⟨k1, r1, hcs, hl1, h1, k2, r2, rfl, hl2, h2, h3⟩ := h
  have h3 : r2 = [] := h3
  subst h3
  have h1' := h1
  have h2' := h2
  obtain ⟨A1, c1, e1, _⟩ := h1
  obtain ⟨A2, c2, e2, _⟩ := h2
  subst e1 e2
  exact ⟨A1, _, c1, A2, _, c2, Array.toList_inj.1 (by rw [hcs]; rfl), esU h1', esU h2'⟩
theorem ops_two9 : Opens Try.prog 33 twoShp := opens_struct Try.underlying33 (by kernel_rfl) (opensF_cons ops_exts rfl (opensF_cons ops_exts rfl (opensF_nil _)))
end Go.Proofs.Ytfdfjnepfgabaaa
