/- Layer 8: ops that a call makes; become, one, join, shortly. -/
import Derived.Test.YtfdfjnepfgabaaaBloG
set_option linter.all false
namespace Go.Proofs.Ytfdfjnepfgabaaa
open Go.RowKit
namespace Blo

def becomeO (k : Nat) (x : Nat) : BOp := if x = 0 then ⟨2, k, 1, []⟩ else ⟨1, k, 0, [x]⟩
theorem results_op {fn : Func} {W : World} {q k : Nat} {x y z d : Value} {tmps : Array Value} (h : fn.results = #[.cell k 76]) (h2 : tmps.getD k undef = .pointer (some ⟨q, 0, none⟩)) (hb : Blk W q 76 #[x, y, z, d]) :
    (results fn tmps).run Try.prog W = .ok (.agg #[x, y, z, d]) W := by
  have d0 := hb.cell (j := 0) rfl
  have d1 := hb.cell (j := 1) rfl
  have d2 := hb.cell (j := 2) rfl
  have d3 := hb.cell (j := 3) rfl
  have h2' : tmps[k]?.getD undef = .pointer (some ⟨q, 0, none⟩) := by simpa using h2
  simp [results, h, h2', go_sem, d0, d1, d2, d3]
section
variable (w : World)
set_option maxRecDepth 100000 in
set_option maxHeartbeats 1000000 in
theorem become_ (k x : Nat) (hk : k ≤ 1024) (hx : x < 18446744073709551616) : Calls Try.prog 59 #[.int .i64 (k : Int), .int .u64 (x : Int)] w fun e w' => ∃ d, e = .returned (.agg #[.int .i64 (becomeO k x).kind, .int .i64 (becomeO k x).off, .int .i64 (becomeO k x).len, d]) ∧ w'.ownsRow w.heap.size 51 1 d (becomeO k x).data.length (nvs (becomeO k x).data) ∧ Below w.heap.size w w' := by
  by_cases h0 : x = 0
  · have Hb := Lib.hid (show becomeO k x = ⟨2, k, 1, []⟩ by unfold becomeO; rw [if_pos h0])
    subst h0
    go_enter Try.func59, Try.ntmps59
    go_wp2
    refine bodyPost_ret (results_op rfl rfl (Blk.new w 76 #[.int .i64 2, .int .i64 (k : Int), .int .i64 1, .slice none 0 0] rfl)) rfl ?_
    rw [Hb.out]
    exact ⟨_, rfl, own_nil _ _ _ _, (Below.refl _ _).alloc (Nat.le_refl _) _⟩
  · have Hb := Lib.hid (show becomeO k x = ⟨1, k, 0, [x]⟩ by unfold becomeO; rw [if_neg h0])
    have hx0 : ¬ (x : Int) = 0 := by omega
    go_enter Try.func59, Try.ntmps59
    go_wp2
    refine bodyPost_ret (results_op rfl rfl ((Blk.new w 76 #[.int .i64 1, .int .i64 (k : Int), .int .i64 0, .slice (some ⟨w.heap.size + 1, 0, none⟩) 1 1] rfl).alloc _)) rfl ?_
    rw [Hb.out]
    have h1 := own_one (w.alloc (.cells #[.int .i64 1, .int .i64 (k : Int), .int .i64 0, .slice (some ⟨w.heap.size + 1, 0, none⟩) 1 1] 76)) (.int .u64 (x : Int)) 51
    have hs : (w.alloc (.cells #[.int .i64 1, .int .i64 (k : Int), .int .i64 0, .slice (some ⟨w.heap.size + 1, 0, none⟩) 1 1] 76)).heap.size = w.heap.size + 1 := by simp
    rw [hs] at h1
    exact ⟨_, rfl, h1.mono (by omega), ((Below.refl _ _).alloc (Nat.le_refl _) _).alloc (by simp) _⟩

/-! ### one -/
def oneB (a b : BOp) : Bool := decide (a.kind = b.kind) && decide (a.from_ + a.cnt = b.off) && decide (a.data.length + b.data.length ≤ 64)
set_option maxRecDepth 100000 in
set_option maxHeartbeats 1000000 in
theorem one_ (x y : BOp) (X Y : Option Addr) (m c p d : Nat) (hs : x.data.length + y.data.length ≤ 1000) (hr : I64 (x.from_ + x.cnt)) (dx : Dat w x X m c) (dy : Dat w y Y p d) :
    Calls Try.prog 62 #[.agg #[.int .i64 x.kind, .int .i64 x.off, .int .i64 x.len, .slice X m c], .agg #[.int .i64 y.kind, .int .i64 y.off, .int .i64 y.len, .slice Y p d]] w fun e w' => e = .returned (.bool (oneB x y)) ∧ Below w.heap.size w w' := by
  obtain ⟨fk, fo, fl⟩ := dx.fit.all
  obtain ⟨gk, go, gl⟩ := dy.fit.all
  have hm := dx.len
  have hp := dy.len
  have hmp : m + p ≤ 1000 := by omega
  have HO := Lib.hid (show oneB x y = (decide (x.kind = y.kind) && decide (x.from_ + x.cnt = y.off) && decide (m + p ≤ 64)) by unfold oneB; rw [hm, hp])
  obtain ⟨fr, hfr⟩ : ∃ z, x.from_ = z := ⟨_, rfl⟩
  obtain ⟨ct, hct⟩ : ∃ z, x.cnt = z := ⟨_, rfl⟩
  have Hfr := Lib.hid hfr
  have Hct := Lib.hid hct
  rw [hfr, hct] at hr
  unfold I64 at hr
  have hacx := Blk.new w 76 #[.int .i64 x.kind, .int .i64 x.off, .int .i64 x.len, .slice X m c] rfl
  have hbx : Below w.heap.size w (w.alloc (.cells #[.int .i64 x.kind, .int .i64 x.off, .int .i64 x.len, .slice X m c] 76)) := (Below.refl _ _).alloc (Nat.le_refl _) _
  have hs1 : (w.alloc (.cells #[.int .i64 x.kind, .int .i64 x.off, .int .i64 x.len, .slice X m c] 76)).heap.size = w.heap.size + 1 := by simp
  have hacy := Blk.new (w.alloc (.cells #[.int .i64 x.kind, .int .i64 x.off, .int .i64 x.len, .slice X m c] 76)) 76 #[.int .i64 y.kind, .int .i64 y.off, .int .i64 y.len, .slice Y p d] hs1.symm
  have hacx2 := hacx.alloc (.cells #[.int .i64 y.kind, .int .i64 y.off, .int .i64 y.len, .slice Y p d] 76)
  have hby : Below w.heap.size w ((w.alloc (.cells #[.int .i64 x.kind, .int .i64 x.off, .int .i64 x.len, .slice X m c] 76)).alloc (.cells #[.int .i64 y.kind, .int .i64 y.off, .int .i64 y.len, .slice Y p d] 76)) := hbx.alloc hbx.size _
  have dx2 := dx.below (hby)
  clear dx dy hbx hacx hs1 hm hp hfr hct hs
  go_enter Try.func62, Try.ntmps62
  go_wp2_with fail
  generalize ((w.alloc (.cells #[.int .i64 x.kind, .int .i64 x.off, .int .i64 x.len, .slice X m c] 76)).alloc (.cells #[.int .i64 y.kind, .int .i64 y.off, .int .i64 y.len, .slice Y p d] 76)) = w1 at *
  refine (range_ _ x X m c dx2).mono ?_
  rw [Hfr.out, Hct.out]
  rintro e w2 ⟨rfl, hb2⟩
  have hacy2 := hacy.keep hb2
  have hacx3 := hacx2.keep hb2
  have c0 := hacx3.cell (j := 0) (u := .int .i64 x.kind) rfl
  have c3 := hacx3.cell (j := 3) (u := .slice X m c) rfl
  have d0 := hacy2.cell (j := 0) (u := .int .i64 y.kind) rfl
  have d1 := hacy2.cell (j := 1) (u := .int .i64 y.off) rfl
  have d3 := hacy2.cell (j := 3) (u := .slice Y p d) rfl
  have hB := below_step hby hb2 (Nat.le_refl _)
  have HO2 := Lib.hid (show oneB x y = (decide (x.kind = y.kind) && decide (fr + ct = y.off) && decide (m + p ≤ 64)) by rw [HO.out, Hfr.out, Hct.out])
  have w1' : IntKind.i64.wrap (fr + ct) = fr + ct := by rw [IntKind.wrap_i64]; omega
  have w2' : IntKind.i64.wrap ((m : Int) + (p : Int)) = ((m + p : Nat) : Int) := by rw [IntKind.wrap_i64]; omega
  clear HO Hfr Hct hacy hacx2 hacy2 hacx3 dx2 hby hb2
  by_cases h0 : x.kind = y.kind
  · have t0 : (x.kind == y.kind) = true := by simpa using h0
    by_cases h1 : fr + ct = y.off
    · have t1 : (fr + ct == y.off) = true := by simpa using h1
      by_cases h2 : m + p ≤ 64
      · have t2 : ((m + p : Nat) : Int) ≤ 64 := by omega
        have Hm := Lib.hid (show oneB x y = true by rw [HO2.out]; simp [h0, h1, h2])
        clear h0 h1 h2 HO2
        go_wp2
        go_ret
        rw [Hm.out]
        exact ⟨by simp; omega, hB⟩
      · have t2 : ¬ ((m + p : Nat) : Int) ≤ 64 := by omega
        have Hm := Lib.hid (show oneB x y = false by rw [HO2.out]; simp [h2])
        clear h0 h1 h2 HO2
        go_wp2
        go_ret
        rw [Hm.out]
        exact ⟨by simp; omega, hB⟩
    · have t1 : (fr + ct == y.off) = false := by simpa using h1
      have Hm := Lib.hid (show oneB x y = false by rw [HO2.out]; simp [h1])
      clear h0 h1 HO2
      go_wp2
      go_ret
      rw [Hm.out]
      exact ⟨rfl, hB⟩
  · have t0 : (x.kind == y.kind) = false := by simpa using h0
    have Hm := Lib.hid (show oneB x y = false by rw [HO2.out]; simp [h0])
    clear h0 HO2
    go_wp2
    go_ret
    rw [Hm.out]
    exact ⟨rfl, hB⟩
end
end Blo
end Go.Proofs.Ytfdfjnepfgabaaa
