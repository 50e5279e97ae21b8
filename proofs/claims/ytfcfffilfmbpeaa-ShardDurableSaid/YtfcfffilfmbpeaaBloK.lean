/- XBloE, XBloF, XBloG, XBloH, XBloI, XBloJ, XBloK. -/
import Derived.Test.YtfcfffilfmbpeaaBloD
import Derived.Deep.RegionLaw
set_option linter.all false
namespace Go.Proofs.Ytfcfffilfmbpeaa
open Go.RowKit
namespace Blo

/-- What Apply answers: the error's number, the volume. -/
def apE (n : Nat) (l : List BOp) : Int := if manyB n then (if l.all (·.right n) then 0 else 1) else 6
def apL (v : List Nat) (l : List BOp) : List Nat := if manyB v.length then (if l.all (·.right v.length) then vol v.length (l.foldl doF (fun_ v)) else []) else []
/-- Rows of numbers that were answered. -/
structure GotN (w : World) (B : Nat) (A : Option Addr) (m c : Nat) (l : List Nat) : Prop where
  own : w.ownsRow B 48 1 (.slice A m c) m (nvs l)
  low : ∀ z ∈ l, z < 18446744073709551616
theorem GotN.ns {w : World} {B : Nat} {A : Option Addr} {m c : Nat} {l : List Nat} (h : GotN w B A m c l) : Ns w A m l := no_ns h.own h.low
theorem GotN.keep {w w' : World} {B : Nat} {A : Option Addr} {m c : Nat} {l : List Nat} (h : GotN w B A m c l) (hb : Below w.heap.size w w') : GotN w' B A m c l := ⟨own_keep h.own hb, h.low⟩
theorem GotN.no (w : World) (B : Nat) : GotN w B none 0 0 [] := ⟨own_nil _ _ _ _, by simp⟩
theorem GotN.bounds {w : World} {B : Nat} {A : Option Addr} {m c : Nat} {l : List Nat} (h : GotN w B A m c l) : m ≤ c ∧ c ≤ 9223372036854775807 ∧ (A = none → m = 0 ∧ c = 0) := by
  obtain ⟨A', c', e, h1, h2, h3⟩ := own_form h.own
  injection e with e1 _ e3
  subst e1 e3
  exact ⟨h1, by unfold maxLen at h2; omega, h3⟩
def AnsN (w w' : World) (e : Ending) (er : Int) (l : List Nat) : Prop := ∃ A m c, e = .returned (.tuple #[.slice A m c, .int .i64 er]) ∧ GotN w' w.heap.size A m c l ∧ Below w.heap.size w w'
theorem foldl_low {l : List BOp} (hd : ∀ o ∈ l, ∀ z ∈ o.data, z < 18446744073709551616) {f : Int → Nat} (h : low64 f) : low64 (l.foldl doF f) := by
  induction l generalizing f with
  | nil => exact h
  | cons o l ih => exact ih (fun x hx => hd x (by simp [hx])) (low_do h (hd o (by simp)))
theorem Opl.low {w : World} {A : Option Addr} {n : Nat} {l : List BOp} (h : Opl w A n l) : ∀ o ∈ l, ∀ z ∈ o.data, z < 18446744073709551616 := fun o ho => by
  obtain ⟨k, hk, rfl⟩ := List.getElem_of_mem ho
  obtain ⟨b, o, X, m, c, _, _, _, _, _, hd⟩ := h.each k hk
  exact hd.ns.2
theorem apL_low {v : List Nat} {l : List BOp} (hv : ∀ z ∈ v, z < 18446744073709551616) (hd : ∀ o ∈ l, ∀ z ∈ o.data, z < 18446744073709551616) : ∀ z ∈ apL v l, z < 18446744073709551616 := by
  unfold apL
  split
  · split
    · exact vol_low (foldl_low hd (fun_low hv))
    · simp
  · simp
theorem dat_alloc {w : World} {o : BOp} {X : Option Addr} {m c : Nat} (h : Dat w o X m c) (x : Obj) : Dat (w.alloc x) o X m c := h.below ((Below.refl _ _).alloc (Nat.le_refl _) _)
section
variable (w : World)
theorem range_at (o : BOp) (X : Option Addr) (m c : Nat) (h : Dat w o X m c) (k q : Nat) (hk : o.from_ = (k : Int)) (hq : o.cnt = (q : Int)) : Calls Try.prog 56 #[.agg #[.int .i64 o.kind, .int .i64 o.off, .int .i64 o.len, .slice X m c]] w fun e w' => e = .returned (.tuple #[.int .i64 (k : Int), .int .i64 (q : Int)]) ∧ Below w.heap.size w w' := by
  have := range_ w o X m c h
  rw [hk, hq] at this
  exact this
theorem rrange_at (o : BOp) (X : Option Addr) (m c : Nat) (h : Dat w o X m c) (k q : Nat) (hk : o.from_ = (k : Int)) (hq : o.cnt = (q : Int)) : Calls Try.prog 16 #[.agg #[.int .i64 o.kind, .int .i64 o.off, .int .i64 o.len, .slice X m c]] w fun e w' => e = .returned (.tuple #[.int .i64 (k : Int), .int .i64 (q : Int)]) ∧ Below w.heap.size w w' := by
  have := rrange_ w o X m c h
  rw [hk, hq] at this
  exact this
end
end Blo
end Go.Proofs.Ytfcfffilfmbpeaa

set_option linter.all false
namespace Go.Proofs.Ytfcfffilfmbpeaa
open Go.RowKit
namespace Blo

theorem all_right {l : List BOp} {n : Int} (h : l.all (·.right n) = true) {x : BOp} (hx : x ∈ l) : x.Ok n := (ok_of_right (List.all_eq_true.1 h x hx)).1
theorem many_nat {n : Nat} (h : manyB n = true) : n ≤ 1024 := by
  simp only [manyB, Bool.and_eq_true, decide_eq_true_eq] at h; omega
section
variable (w : World)
end
end Blo
end Go.Proofs.Ytfcfffilfmbpeaa

set_option linter.all false
namespace Go.Proofs.Ytfcfffilfmbpeaa
open Go.RowKit
namespace Blo

section
variable (w : World)
set_option maxRecDepth 100000 in
set_option maxHeartbeats 1000000 in
/-- All of a volume, read. -/
theorem read_ (A : Option Addr) (n c : Nat) (v : List Nat) (h : Ns w A n v) (hA : A = none → n = 0 ∧ c = 0) (hnc : n ≤ c) (hc : c ≤ 9223372036854775807) :
    Calls Try.prog 27 #[.slice A n c, .int .i64 0, .int .i64 (n : Int)] w fun e w' => AnsN w w' e (if manyB n then 0 else 6) (if manyB n then v else []) := by
  have hni : I64 (n : Int) := by unfold I64; omega
  cases hm : manyB n with
  | false =>
    go_enter Try.func27, Try.ntmps27
    go_wp2_with fail
    refine (volume_ _ n hni).mono ?_
    rw [hm]
    rintro e w2 ⟨rfl, rfl⟩
    go_wp2
    go_ret2
    exact ⟨none, 0, 0, rfl, GotN.no _ _, Below.refl _ _⟩
  | true =>
    have hn := many_nat hm
    have Hlow := Lib.hid h.2
    have hwi : withinB (n : Int) 0 (n : Int) = true := by simp [withinB]
    go_enter Try.func27, Try.ntmps27
    go_wp2_with fail
    refine (volume_ _ n hni).mono ?_
    rw [hm]
    rintro e w2 ⟨rfl, rfl⟩
    go_wp2_with fail
    refine (within_ _ n 0 n (by omega) (by unfold I64; omega) hni).mono ?_
    rw [hwi]
    rintro e w2 ⟨rfl, rfl⟩
    have t1 : (n : Int) ≤ (c : Int) := by omega
    go_wp2_with fail
    refine (clone_ _ A n c v h hA hnc hc (by omega)).mono ?_
    rintro e w3 ⟨V, rfl, hO, hb3⟩
    obtain ⟨A', c', rfl, -, -, -⟩ := own_form hO
    go_wp2
    go_ret2
    exact ⟨A', n, c', rfl, ⟨hO, Hlow.out⟩, hb3⟩
end
end Blo
end Go.Proofs.Ytfcfffilfmbpeaa

set_option linter.all false
namespace Go.Proofs.Ytfcfffilfmbpeaa
open Go.RowKit
namespace Blo

def becomeO (k : Nat) (x : Nat) : BOp := if x = 0 then ⟨2, k, 1, []⟩ else ⟨1, k, 0, [x]⟩
theorem results_op {fn : Func} {W : World} {q k : Nat} {x y z d : Value} {tmps : Array Value} (h : fn.results = #[.cell k 31]) (h2 : tmps.getD k undef = .pointer (some ⟨q, 0, none⟩)) (hb : Blk W q 31 #[x, y, z, d]) :
    (results fn tmps).run Try.prog W = .ok (.agg #[x, y, z, d]) W := by
  have d0 := hb.cell (j := 0) rfl
  have d1 := hb.cell (j := 1) rfl
  have d2 := hb.cell (j := 2) rfl
  have d3 := hb.cell (j := 3) rfl
  have h2' : tmps[k]?.getD undef = .pointer (some ⟨q, 0, none⟩) := by simpa using h2
  simp [results, h, h2', go_sem, d0, d1, d2, d3]
section
variable (w : World)
set_option maxRecDepth 100000 in
set_option maxHeartbeats 1000000 in
theorem become_ (k x : Nat) (hk : k ≤ 1024) (hx : x < 18446744073709551616) : Calls Try.prog 73 #[.int .i64 (k : Int), .int .u64 (x : Int)] w fun e w' => ∃ d, e = .returned (.agg #[.int .i64 (becomeO k x).kind, .int .i64 (becomeO k x).off, .int .i64 (becomeO k x).len, d]) ∧ w'.ownsRow w.heap.size 48 1 d (becomeO k x).data.length (nvs (becomeO k x).data) ∧ Below w.heap.size w w' := by
  by_cases h0 : x = 0
  · have Hb := Lib.hid (show becomeO k x = ⟨2, k, 1, []⟩ by unfold becomeO; rw [if_pos h0])
    subst h0
    go_enter Try.func73, Try.ntmps73
    go_wp2
    refine bodyPost_ret (results_op rfl rfl (Blk.new w 31 #[.int .i64 2, .int .i64 (k : Int), .int .i64 1, .slice none 0 0] rfl)) rfl ?_
    rw [Hb.out]
    exact ⟨_, rfl, own_nil _ _ _ _, (Below.refl _ _).alloc (Nat.le_refl _) _⟩
  · have Hb := Lib.hid (show becomeO k x = ⟨1, k, 0, [x]⟩ by unfold becomeO; rw [if_neg h0])
    have hx0 : ¬ (x : Int) = 0 := by omega
    go_enter Try.func73, Try.ntmps73
    go_wp2
    refine bodyPost_ret (results_op rfl rfl ((Blk.new w 31 #[.int .i64 1, .int .i64 (k : Int), .int .i64 0, .slice (some ⟨w.heap.size + 1, 0, none⟩) 1 1] rfl).alloc _)) rfl ?_
    rw [Hb.out]
    have h1 := own_one (w.alloc (.cells #[.int .i64 1, .int .i64 (k : Int), .int .i64 0, .slice (some ⟨w.heap.size + 1, 0, none⟩) 1 1] 31)) (.int .u64 (x : Int)) 48
    have hs : (w.alloc (.cells #[.int .i64 1, .int .i64 (k : Int), .int .i64 0, .slice (some ⟨w.heap.size + 1, 0, none⟩) 1 1] 31)).heap.size = w.heap.size + 1 := by simp
    rw [hs] at h1
    exact ⟨_, rfl, h1.mono (by omega), ((Below.refl _ _).alloc (Nat.le_refl _) _).alloc (by simp) _⟩

/-! ### one -/
def oneB (a b : BOp) : Bool := decide (a.kind = b.kind) && decide (a.from_ + a.cnt = b.off) && decide (a.data.length + b.data.length ≤ 64)
set_option maxRecDepth 100000 in
set_option maxHeartbeats 1000000 in
theorem one_ (x y : BOp) (X Y : Option Addr) (m c p d : Nat) (hs : x.data.length + y.data.length ≤ 1000) (hr : I64 (x.from_ + x.cnt)) (dx : Dat w x X m c) (dy : Dat w y Y p d) :
    Calls Try.prog 84 #[.agg #[.int .i64 x.kind, .int .i64 x.off, .int .i64 x.len, .slice X m c], .agg #[.int .i64 y.kind, .int .i64 y.off, .int .i64 y.len, .slice Y p d]] w fun e w' => e = .returned (.bool (oneB x y)) ∧ Below w.heap.size w w' := by
  obtain ⟨fk, fo, fl⟩ := dx.fit.all
  obtain ⟨gk, go, gl⟩ := dy.fit.all
  have hm := dx.len
  have hp := dy.len
  have hmp : m + p ≤ 1000 := by omega
  have HO := Lib.hid (show oneB x y = (decide (x.kind = y.kind) && decide (x.from_ + x.cnt = y.off) && decide (m + p ≤ 64)) by unfold oneB; rw [hm, hp])
  obtain ⟨fr, hfr⟩ : ∃ z, x.from_ = z := ⟨_, rfl⟩
  obtain ⟨ct, hct⟩ : ∃ z, x.cnt = z := ⟨_, rfl⟩
  have Hfr := Lib.hid hfr
  have Hct := Lib.hid hct
  rw [hfr, hct] at hr
  unfold I64 at hr
  have hacx := Blk.new w 31 #[.int .i64 x.kind, .int .i64 x.off, .int .i64 x.len, .slice X m c] rfl
  have hbx : Below w.heap.size w (w.alloc (.cells #[.int .i64 x.kind, .int .i64 x.off, .int .i64 x.len, .slice X m c] 31)) := (Below.refl _ _).alloc (Nat.le_refl _) _
  have hs1 : (w.alloc (.cells #[.int .i64 x.kind, .int .i64 x.off, .int .i64 x.len, .slice X m c] 31)).heap.size = w.heap.size + 1 := by simp
  have hacy := Blk.new (w.alloc (.cells #[.int .i64 x.kind, .int .i64 x.off, .int .i64 x.len, .slice X m c] 31)) 31 #[.int .i64 y.kind, .int .i64 y.off, .int .i64 y.len, .slice Y p d] hs1.symm
  have hacx2 := hacx.alloc (.cells #[.int .i64 y.kind, .int .i64 y.off, .int .i64 y.len, .slice Y p d] 31)
  have hby : Below w.heap.size w ((w.alloc (.cells #[.int .i64 x.kind, .int .i64 x.off, .int .i64 x.len, .slice X m c] 31)).alloc (.cells #[.int .i64 y.kind, .int .i64 y.off, .int .i64 y.len, .slice Y p d] 31)) := hbx.alloc hbx.size _
  have dx2 := dx.below (hby)
  clear dx dy hbx hacx hs1 hm hp hfr hct hs
  go_enter Try.func84, Try.ntmps84
  go_wp2_with fail
  generalize ((w.alloc (.cells #[.int .i64 x.kind, .int .i64 x.off, .int .i64 x.len, .slice X m c] 31)).alloc (.cells #[.int .i64 y.kind, .int .i64 y.off, .int .i64 y.len, .slice Y p d] 31)) = w1 at *
  refine (range_ _ x X m c dx2).mono ?_
  rw [Hfr.out, Hct.out]
  rintro e w2 ⟨rfl, hb2⟩
  have hacy2 := hacy.keep hb2
  have hacx3 := hacx2.keep hb2
  have c0 := hacx3.cell (j := 0) (u := .int .i64 x.kind) rfl
  have c3 := hacx3.cell (j := 3) (u := .slice X m c) rfl
  have d0 := hacy2.cell (j := 0) (u := .int .i64 y.kind) rfl
  have d1 := hacy2.cell (j := 1) (u := .int .i64 y.off) rfl
  have d3 := hacy2.cell (j := 3) (u := .slice Y p d) rfl
  have hB := below_step hby hb2 (Nat.le_refl _)
  have HO2 := Lib.hid (show oneB x y = (decide (x.kind = y.kind) && decide (fr + ct = y.off) && decide (m + p ≤ 64)) by rw [HO.out, Hfr.out, Hct.out])
  have w1' : IntKind.i64.wrap (fr + ct) = fr + ct := by rw [IntKind.wrap_i64]; omega
  have w2' : IntKind.i64.wrap ((m : Int) + (p : Int)) = ((m + p : Nat) : Int) := by rw [IntKind.wrap_i64]; omega
  clear HO Hfr Hct hacy hacx2 hacy2 hacx3 dx2 hby hb2
  by_cases h0 : x.kind = y.kind
  · have t0 : (x.kind == y.kind) = true := by simpa using h0
    by_cases h1 : fr + ct = y.off
    · have t1 : (fr + ct == y.off) = true := by simpa using h1
      by_cases h2 : m + p ≤ 64
      · have t2 : ((m + p : Nat) : Int) ≤ 64 := by omega
        have Hm := Lib.hid (show oneB x y = true by rw [HO2.out]; simp [h0, h1, h2])
        clear h0 h1 h2 HO2
        go_wp2
        go_ret
        rw [Hm.out]
        exact ⟨by simp; omega, hB⟩
      · have t2 : ¬ ((m + p : Nat) : Int) ≤ 64 := by omega
        have Hm := Lib.hid (show oneB x y = false by rw [HO2.out]; simp [h2])
        clear h0 h1 h2 HO2
        go_wp2
        go_ret
        rw [Hm.out]
        exact ⟨by simp; omega, hB⟩
    · have t1 : (fr + ct == y.off) = false := by simpa using h1
      have Hm := Lib.hid (show oneB x y = false by rw [HO2.out]; simp [h1])
      clear h0 h1 HO2
      go_wp2
      go_ret
      rw [Hm.out]
      exact ⟨rfl, hB⟩
  · have t0 : (x.kind == y.kind) = false := by simpa using h0
    have Hm := Lib.hid (show oneB x y = false by rw [HO2.out]; simp [h0])
    clear h0 HO2
    go_wp2
    go_ret
    rw [Hm.out]
    exact ⟨rfl, hB⟩
end
end Blo
end Go.Proofs.Ytfcfffilfmbpeaa

set_option linter.all false
namespace Go.Proofs.Ytfcfffilfmbpeaa
open Go.RowKit
namespace Blo

abbrev ov4 (p : BOp × Value) : List Value := [.int .i64 p.1.kind, .int .i64 p.1.off, .int .i64 p.1.len, p.2]
def ovs (L : List (BOp × Value)) : List Value := L.flatMap ov4
theorem ovs_app (L L' : List (BOp × Value)) : ovs (L ++ L') = ovs L ++ ovs L' := by simp [ovs]
theorem ovs_snoc (L : List (BOp × Value)) (p : BOp × Value) : ovs (L ++ [p]) = ovs L ++ ov4 p := by rw [ovs_app]; simp [ovs]
theorem ovs_cons (p : BOp × Value) (L : List (BOp × Value)) : ovs (p :: L) = ov4 p ++ ovs L := rfl
theorem ovs_len : ∀ L : List (BOp × Value), (ovs L).length = L.length * 4
  | [] => rfl
  | p :: L => by rw [ovs_cons, List.length_append, ovs_len L, List.length_cons]; simp; omega
theorem ovs_at : ∀ {L : List (BOp × Value)} {k : Nat} (h : k < L.length) {j : Nat} (_ : j < 4), (ovs L)[k * 4 + j]? = (ov4 L[k])[j]?
  | p :: L, 0, _, j, hj => by
    rw [ovs_cons, List.getElem?_append_left (by simp; omega)]
    simp
  | p :: L, k + 1, h, j, hj => by
    rw [ovs_cons, List.getElem?_append_right (by simp; omega)]
    have e : (k + 1) * 4 + j - (ov4 p).length = k * 4 + j := by simp; omega
    rw [e, ovs_at (L := L) (by simpa using h) hj]
    simp
/-- v is a row of the call's own, of ops, whose numbers lie in rows of the call's own. -/
structure Ol (w : World) (base : Nat) (v : Value) (n : Nat) (L : List (BOp × Value)) : Prop where
  row : w.ownsRow base 31 4 v n (ovs L)
  data : ∀ p ∈ L, w.ownsRow base 48 1 p.2 p.1.data.length (nvs p.1.data)
  apart : L.Pairwise fun p q => ∀ g, p.2.ownBlock = some g → q.2.ownBlock ≠ some g
theorem Ol.len {w : World} {base : Nat} {v : Value} {n : Nat} {L : List (BOp × Value)} (h : Ol w base v n L) : n = L.length := by have := h.row.1; rw [ovs_len] at this; omega
theorem Ol.keep {w w' : World} {base : Nat} {v : Value} {n : Nat} {L : List (BOp × Value)} (h : Ol w base v n L) (hb : Below w.heap.size w w') : Ol w' base v n L := ⟨own_keep h.row hb, fun p hp => own_keep (h.data p hp) hb, h.apart⟩
theorem Ol.nil (w : World) (base : Nat) : Ol w base (.slice none 0 0) 0 [] := ⟨own_nil _ _ _ _, by simp, by simp⟩
theorem Ol.mono {w : World} {base base' : Nat} {v : Value} {n : Nat} {L : List (BOp × Value)} (h : Ol w base v n L) (hb : base' ≤ base) : Ol w base' v n L := ⟨h.row.mono hb, fun p hp => (h.data p hp).mono hb, h.apart⟩
/-- The last op: its cells, and what is written over them. -/
theorem ol_last {w : World} {base : Nat} {v : Value} {n : Nat} {P : List (BOp × Value)} {y : BOp} {dy : Value} (h : Ol w base v n (P ++ [(y, dy)])) : ∃ g cap cur, v = .slice (some ⟨g, 0, none⟩) n cap ∧ n ≤ cap ∧ cap ≤ maxLen ∧ base ≤ g ∧ n = P.length + 1 ∧ Blk w g 31 cur ∧
    w.cell? ⟨g, P.length * 4, none⟩ = some (.int .i64 y.kind) ∧ w.cell? ⟨g, P.length * 4 + 1, none⟩ = some (.int .i64 y.off) ∧ w.cell? ⟨g, P.length * 4 + 2, none⟩ = some (.int .i64 y.len) ∧ w.cell? ⟨g, P.length * 4 + 3, none⟩ = some dy ∧ (∀ j, w.frozen? ⟨g, j, none⟩ = false) := by
  have hl := h.len
  rw [List.length_append, List.length_singleton] at hl
  rcases h.row.2 with ⟨_, h0⟩ | ⟨g, cap, cur, rfl, hg, hh, hnc, hcm, hcs, hx⟩
  · omega
  have hb : Blk w g 31 cur := hh
  have hc : ∀ j (u : Value), (ov4 (y, dy))[j]? = some u → w.cell? ⟨g, P.length * 4 + j, none⟩ = some u := fun j u hu => by
    refine hb.cell ?_
    have h1 : (ovs (P ++ [(y, dy)]))[P.length * 4 + j]? = some u := by
      rw [ovs_snoc, List.getElem?_append_right (by rw [ovs_len]; omega), ovs_len, Nat.add_sub_cancel_left]
      exact hu
    rw [← hx, List.getElem?_take] at h1
    split at h1
    · simpa using h1
    · cases h1
  exact ⟨g, cap, cur, rfl, hnc, hcm, hg, hl, hb, hc 0 _ rfl, hc 1 _ rfl, hc 2 _ rfl, hc 3 _ rfl, fun j => hb.free _⟩
/-- A cell of the last op, written over. -/
theorem row_set {w : World} {base g cap n : Nat} {P : List (BOp × Value)} {y y' : BOp} {dy dy' : Value} (h : w.ownsRow base 31 4 (.slice (some ⟨g, 0, none⟩) n cap) n (ovs (P ++ [(y, dy)]))) (j : Nat) (u : Value) (hj : j < 4) (hu : (ov4 (y, dy)).set j u = ov4 (y', dy')) :
    (w.setCell ⟨g, P.length * 4 + j, none⟩ u).ownsRow base 31 4 (.slice (some ⟨g, 0, none⟩) n cap) n (ovs (P ++ [(y', dy')])) := by
  have hl := h.1
  rw [ovs_len, List.length_append, List.length_singleton] at hl
  rcases h.2 with ⟨e, _⟩ | ⟨g', cap', cur, e, hg, hh, hnc, hcm, hcs, hx⟩
  · cases e
  injection e with e _ e3
  injection e with e
  injection e with e
  subst e e3
  have hb : Blk w g 31 cur := hh
  refine ⟨by rw [ovs_len]; simp; omega, .inr ⟨g, cap, cur.setIfInBounds (P.length * 4 + j) u, rfl, hg, hb.setCell _ _, hnc, hcm, by simp [hcs], ?_⟩⟩
  rw [Array.toList_setIfInBounds, List.take_set, hx, ovs_snoc, ovs_snoc, List.set_append_right _ _ (by rw [ovs_len]; omega), ovs_len, Nat.add_sub_cancel_left, hu]
theorem ol_setLen {w : World} {base g cap n : Nat} {P : List (BOp × Value)} {y : BOp} {dy : Value} (h : Ol w base (.slice (some ⟨g, 0, none⟩) n cap) n (P ++ [(y, dy)])) (z : Int) : Ol (w.setCell ⟨g, P.length * 4 + 2, none⟩ (.int .i64 z)) base (.slice (some ⟨g, 0, none⟩) n cap) n (P ++ [({ y with len := z }, dy)]) := by
  have hne : ∀ p ∈ P ++ [(y, dy)], ∀ k, p.2.ownBlock = some k → some k ≠ some g := fun p hp k hk e => by
    injection e with e
    subst e
    exact own_ne h.row (h.data p hp) (by decide) (g := k) rfl hk
  refine ⟨row_set h.row 2 _ (by omega) rfl, fun p hp => ?_, ?_⟩
  · rcases List.mem_append.1 hp with hp | hp
    · exact own_grown (h.data p (by simp [hp])) (grown_setCell w ⟨g, P.length * 4 + 2, none⟩ (.int .i64 z)) (hne p (by simp [hp]))
    · rw [List.mem_singleton.1 hp]
      exact own_grown (h.data (y, dy) (by simp)) (grown_setCell w ⟨g, P.length * 4 + 2, none⟩ (.int .i64 z)) (hne (y, dy) (by simp))
  · have := List.pairwise_append.1 h.apart
    rw [List.pairwise_append]
    refine ⟨this.1, by simp, fun a ha b hb => ?_⟩
    rw [List.mem_singleton.1 hb]
    exact this.2.2 a ha (y, dy) (by simp)
theorem ol_setDat {w w' : World} {base g cap n : Nat} {P : List (BOp × Value)} {y y' : BOp} {dy d' : Value} (h : Ol w base (.slice (some ⟨g, 0, none⟩) n cap) n (P ++ [(y, dy)])) (hg : w.grownBy w' dy.ownBlock) (hd : w'.ownsRow base 48 1 d' y'.data.length (nvs y'.data)) (hat : d'.ownBlock = dy.ownBlock ∨ ∀ k, d'.ownBlock = some k → w.heap.size ≤ k)
    (h1 : y'.kind = y.kind) (h2 : y'.off = y.off) (h3 : y'.len = y.len) : Ol (w'.setCell ⟨g, P.length * 4 + 3, none⟩ d') base (.slice (some ⟨g, 0, none⟩) n cap) n (P ++ [(y', d')]) := by
  have hap := List.pairwise_append.1 h.apart
  have hrow : w'.ownsRow base 31 4 (.slice (some ⟨g, 0, none⟩) n cap) n (ovs (P ++ [(y, dy)])) := own_grown h.row hg (fun k hk e => own_ne h.row (h.data (y, dy) (by simp)) (by decide) hk e.symm)
  have hdat : ∀ p ∈ P, w'.ownsRow base 48 1 p.2 p.1.data.length (nvs p.1.data) := fun p hp => own_grown (h.data p (by simp [hp])) hg (fun k hk e => hap.2.2 p hp (y, dy) (by simp) k hk e.symm)
  have hne : ∀ {v : Value} {m : Nat} {xs : List Value}, w'.ownsRow base 48 1 v m xs → ∀ k, v.ownBlock = some k → some k ≠ some g := fun hv k hk e => by
    injection e with e
    subst e
    exact own_ne hrow hv (by decide) (g := k) rfl hk
  refine ⟨row_set hrow 3 _ (by omega) (by simp [h1, h2, h3]), fun p hp => ?_, ?_⟩
  · rcases List.mem_append.1 hp with hp | hp
    · exact own_grown (hdat p hp) (grown_setCell w' ⟨g, P.length * 4 + 3, none⟩ d') (hne (hdat p hp))
    · rw [List.mem_singleton.1 hp]
      exact own_grown hd (grown_setCell w' ⟨g, P.length * 4 + 3, none⟩ d') (hne hd)
  · rw [List.pairwise_append]
    refine ⟨hap.1, by simp, fun a ha b hb k hk => ?_⟩
    rw [List.mem_singleton.1 hb]
    rcases hat with e | e
    · simp only
      rw [e]
      exact hap.2.2 a ha (y, dy) (by simp) k hk
    · intro q
      have h5 := e k q
      have h6 := ((h.data a (by simp [ha])).lt k hk).2
      omega
/-- An op more. -/
theorem ol_push {w w' : World} {base : Nat} {v v' : Value} {n : Nat} {L : List (BOp × Value)} {y : BOp} {dy : Value} (h : Ol w base v n L) (hg : w.grownBy w' v.ownBlock) (hr : w'.ownsRow base 31 4 v' (n + 1) (ovs L ++ ov4 (y, dy))) (hd : w.ownsRow base 48 1 dy y.data.length (nvs y.data)) (hap : ∀ p ∈ L, ∀ g, p.2.ownBlock = some g → dy.ownBlock ≠ some g) : Ol w' base v' (n + 1) (L ++ [(y, dy)]) := by
  have hne : ∀ {u : Value} {m : Nat} {xs : List Value}, w.ownsRow base 48 1 u m xs → ∀ k, u.ownBlock = some k → some k ≠ v.ownBlock := fun hu k hk e => own_ne h.row hu (by decide) e.symm hk
  refine ⟨by rw [ovs_snoc]; exact hr, fun p hp => ?_, ?_⟩
  · rcases List.mem_append.1 hp with hp | hp
    · exact own_grown (h.data p hp) hg (hne (h.data p hp))
    · rw [List.mem_singleton.1 hp]
      exact own_grown hd hg (hne hd)
  · rw [List.pairwise_append]
    refine ⟨h.apart, by simp, fun a ha b hb => ?_⟩
    rw [List.mem_singleton.1 hb]
    exact hap a ha
theorem info_op : (Try.prog.info? 31).map (fun i => (i.zero, i.size, i.bytes)) = some (some (.agg #[.int .i64 0, .int .i64 0, .int .i64 0, .slice none 0 0]), 4, 48) := by kernel_rfl
theorem op_info : ∃ i, Try.prog.info? 31 = some i ∧ i.zero = some (.agg #[.int .i64 0, .int .i64 0, .int .i64 0, .slice none 0 0]) ∧ i.size = 4 ∧ i.bytes = 48 := by
  obtain ⟨i, hi, he⟩ := Option.map_eq_some_iff.1 info_op
  simp only [Prod.mk.injEq] at he
  exact ⟨i, hi, he.1, he.2.1, he.2.2⟩
theorem snoc_cases {α : Type} (l : List α) : l = [] ∨ ∃ p y, l = p ++ [y] := by
  rcases List.eq_nil_or_concat l with h | ⟨p, y, h⟩
  · exact .inl h
  · exact .inr ⟨p, y, by simpa using h⟩
/-- An op that is told: its numbers are small. -/
structure Sml (o : BOp) : Prop where
  fit : FitB o
  low : ∀ z ∈ o.data, z < 18446744073709551616
  short : o.data.length ≤ 64
  rng : I64 (o.from_ + o.cnt)
  lenB : -2000 ≤ o.len ∧ o.len ≤ 2000
theorem sml_of {o : BOp} {n : Int} (h : o.Ok n) (hn : n ≤ 1024) (hl : ∀ z ∈ o.data, z < 18446744073709551616) : Sml o := by
  have h1 := h.low
  have h2 := h.high
  have h3 := h.some
  have h4 : o.from_ = o.off := from_ok h
  rcases h.form with ⟨k1, k2, k3⟩ | ⟨k1, k2⟩
  · refine ⟨⟨?_, ?_, ?_⟩, hl, k3, ?_, ?_⟩ <;> (try unfold I64) <;> omega
  · have hc : o.cnt = o.len := by unfold BOp.cnt; rw [if_neg (by omega), if_pos k1]
    refine ⟨⟨?_, ?_, ?_⟩, hl, by rw [k2]; simp, ?_, ?_⟩ <;> (try unfold I64) <;> omega
theorem dat_own {w : World} {base : Nat} {o : BOp} {A : Option Addr} {m c : Nat} (h : w.ownsRow base 48 1 (.slice A m c) m (nvs o.data)) (ho : Sml o) : Dat w o A m c := by
  have hm : m = o.data.length := by have := h.1; rw [nvs_length] at this; omega
  obtain ⟨A', c', e, h1, h2, h3⟩ := own_form h
  injection e with e1 _ e3
  subst e1 e3
  have := ho.short
  exact ⟨no_ns h ho.low, h3, h1, by unfold maxLen at h2; omega, by omega, ho.fit⟩
def mergeO (y o : BOp) : BOp := { y with len := y.len + o.len, data := y.data ++ o.data }
def joinS (l : List BOp) (o : BOp) : List BOp := match l.getLast? with
  | some y => if oneB y o then l.dropLast ++ [mergeO y o] else l ++ [o]
  | none => l ++ [o]
theorem joinS_nil (o : BOp) : joinS [] o = [o] := rfl
theorem joinS_snoc (p : List BOp) (y o : BOp) : joinS (p ++ [y]) o = if oneB y o then p ++ [mergeO y o] else (p ++ [y]) ++ [o] := by
  unfold joinS
  simp
end Blo
end Go.Proofs.Ytfcfffilfmbpeaa

set_option linter.all false
namespace Go.Proofs.Ytfcfffilfmbpeaa
open Go.RowKit
namespace Blo

theorem ov_one (o : BOp) (X : Option Addr) (m c : Nat) : ∀ u ∈ ov4 (o, .slice X m c), u.oneCell' = true := by
  intro u hu
  simp only [ov4, List.mem_cons, List.not_mem_nil, or_false] at hu
  rcases hu with rfl | rfl | rfl | rfl <;> rfl
theorem rd_op {w : World} {o : BOp} {X : Option Addr} {m c g : Nat} {t : TypeId} (hg : g = w.heap.size) : Rd (w.alloc (.cells #[.int .i64 o.kind, .int .i64 o.off, .int .i64 o.len, .slice X m c] t)) (some ⟨g, 0, none⟩) 4 1 (ov4 (o, .slice X m c)) := by
  subst hg
  exact Rd.new w #[.int .i64 o.kind, .int .i64 o.off, .int .i64 o.len, .slice X m c] t (0, 0) rfl
theorem grown_below_own {w w' : World} {base : Nat} {e : TypeId} {s n : Nat} {v : Value} {xs : List Value} (hB : Below base w w') (h : w'.ownsRow base e s v n xs) {w2 : World} (hg : w'.grownBy w2 v.ownBlock) (hb : base ≤ w'.heap.size) : Below base w w2 := hB.grown hg hb (own_from h)
theorem grown_drewR {a b : World} {row : Option Nat} (h : a.grownBy b row) : a.grownBy b.drew row := ⟨h.os, h.tape, h.output, h.size, h.block⟩
theorem frozen_grown {w w' : World} {row : Option Nat} (hg : w.grownBy w' row) {g j : Nat} (h : w.frozen? ⟨g, j, none⟩ = false) (hlt : g < w.heap.size) (hne : some g ≠ row) : w'.frozen? ⟨g, j, none⟩ = false := by
  have := hg.block g hlt hne
  unfold World.frozen? at h ⊢
  simp only [this]
  exact h
theorem Dat.drew {w : World} {o : BOp} {X : Option Addr} {m c : Nat} (h : Dat w o X m c) : Dat w.drew o X m c := ⟨h.ns.drew, h.nil, h.le, h.cap, h.by8, h.fit⟩
/-- What is answered: a list of ops of the call's own. -/
def Told (w w' : World) (base : Nat) (e : Ending) (l : List BOp) : Prop := ∃ v n L, e = .returned v ∧ Ol w' base v n L ∧ L.map Prod.fst = l ∧ Below base w w'
section
variable (w : World)
set_option maxRecDepth 100000 in
set_option maxHeartbeats 2000000 in
theorem join_ (base : Nat) (v : Value) (n : Nat) (L : List (BOp × Value)) (o : BOp) (d : Value) (h : Ol w base v n L) (hb : base ≤ w.heap.size) (hn : n ≤ 2000) (hL : ∀ p ∈ L, Sml p.1) (ho : Sml o) (hd : w.ownsRow base 48 1 d o.data.length (nvs o.data)) (hap : ∀ p ∈ L, ∀ g, p.2.ownBlock = some g → d.ownBlock ≠ some g) :
    Calls Try.prog 72 #[v, .agg #[.int .i64 o.kind, .int .i64 o.off, .int .i64 o.len, d]] w fun e w' => Told w w' base e (joinS (L.map Prod.fst) o) := by
  obtain ⟨i0, hi0, hz0, hz1, hz2⟩ := op_info
  have Hz := Lib.hid hz2
  obtain ⟨i1, hi1, hy0, hy1, hy2⟩ := u64_info
  have Hy := Lib.hid hy2
  clear hz2 hy2
  obtain ⟨fk, fo, fl⟩ := ho.fit.all
  have hshort := ho.short
  obtain ⟨X, c, rfl, hqc, hcm, hX⟩ := own_form hd
  have hdat := dat_own hd ho
  generalize hq : o.data.length = q at *
  have Hq := Lib.hid hq
  clear hq
  have hac := Blk.new w 31 #[.int .i64 o.kind, .int .i64 o.off, .int .i64 o.len, .slice X q c] rfl
  have hba : Below w.heap.size w (w.alloc (.cells #[.int .i64 o.kind, .int .i64 o.off, .int .i64 o.len, .slice X q c] 31)) := (Below.refl _ _).alloc (Nat.le_refl _) _
  have hown := h.keep hba
  have hdo := own_keep hd hba
  rcases snoc_cases L with rfl | ⟨P, ⟨y, dy⟩, rfl⟩
  · have hn0 : n = 0 := h.len
    subst hn0
    obtain ⟨A, c', rfl, hc, hcm', hA⟩ := own_form h.row
    clear h hd hdat
    go_enter Try.func72, Try.ntmps72
    go_wp2_with fail
    have hs1 : (w.alloc (.cells #[.int .i64 o.kind, .int .i64 o.off, .int .i64 o.len, .slice X q c] 31)).heap.size = w.heap.size + 1 := by simp
    generalize (w.alloc (.cells #[.int .i64 o.kind, .int .i64 o.off, .int .i64 o.len, .slice X q c] 31)) = w1 at *
    go_quiet (fail)
    have d0 : (w1.drewN nq).cell? ⟨w.heap.size, 0, none⟩ = some (.int .i64 o.kind) := hac.cell rfl
    have d1 : (w1.drewN nq).cell? ⟨w.heap.size, 1, none⟩ = some (.int .i64 o.off) := hac.cell rfl
    have d2 : (w1.drewN nq).cell? ⟨w.heap.size, 2, none⟩ = some (.int .i64 o.len) := hac.cell rfl
    have d3 : (w1.drewN nq).cell? ⟨w.heap.size, 3, none⟩ = some (.slice X q c) := hac.cell rfl
    have hOD : Ol (w1.drewN nq) base (.slice A 0 c') 0 [] := ⟨hown.row, hown.data, hown.apart⟩
    have hDD : (w1.drewN nq).ownsRow base 48 1 (.slice X q c) q (nvs o.data) := hdo
    have hbD : Below w.heap.size w (w1.drewN nq) := below_drewN hba nq
    have hsD : (w1.drewN nq).heap.size = w.heap.size + 1 := hs1
    generalize w1.drewN nq = w2 at *
    go_wp2_with (first
      | (at_builtin
         go_must (refine wpList_app _ rfl (.tmp 20) (.tmp 22) _ rfl base 31 i0 _ 4 48 Try.underlying52 hi0 hz0 hz1 Hz.out rfl (by decide) _ 0 _ rfl (own_keep hOD.row ((Below.refl _ _).alloc (Nat.le_refl _) _)) _ 1 1 (ov4 (o, .slice X q c)) rfl (fun h => by cases h) (rd_op hsD.symm) (ov_one _ _ _ _) (by unfold maxLen; omega) (by omega) (by simp; omega) ?_)
         intro v3 w3 hown3 hg3 hat3))
    go_ret
    have hO3 := hOD.keep (show Below w2.heap.size w2 (w2.alloc (.cells #[.int .i64 o.kind, .int .i64 o.off, .int .i64 o.len, .slice X q c] 31)) from (Below.refl _ _).alloc (Nat.le_refl _) _)
    have hD3 := own_keep hDD (show Below w2.heap.size w2 (w2.alloc (.cells #[.int .i64 o.kind, .int .i64 o.off, .int .i64 o.len, .slice X q c] 31)) from (Below.refl _ _).alloc (Nat.le_refl _) _)
    refine ⟨v3, 0 + 1, [] ++ [(o, .slice X q c)], rfl, ol_push hO3 hg3 hown3 (by rw [Hq.out]; exact hD3) hap, rfl, grown_below_own ((hbD.mono hb).alloc (by omega) _) hO3.row hg3 (by simp; omega)⟩
  · obtain ⟨g, cap, cur, rfl, hnc, hcap, hbg, hnm, hblk, c0, c1, c2, c3, hfz⟩ := ol_last hown
    have hys : Sml y := hL (y, dy) (by simp)
    have hyd := hown.data (y, dy) (by simp)
    dsimp only at hyd
    obtain ⟨Y, cy, rfl, hycc, hycm, hY⟩ := own_form hyd
    have hdy := dat_own hyd hys
    have hdx := hdat.below hba
    have hysh := hys.short
    have hyr := hys.rng
    have hyl := hys.lenB
    have hol := ho.lenB
    have Hj := Lib.hid (joinS_snoc (P.map Prod.fst) y o)
    have hgl := ((h.row.lt g rfl).2)
    have hYlt : ∀ k, (Value.slice Y y.data.length cy).ownBlock = some k → k < w.heap.size := fun k hk => ((h.data (y, .slice Y y.data.length cy) (by simp)).lt k hk).2
    generalize hmy : y.data.length = my at *
    have Hmy := Lib.hid hmy
    generalize hmp : P.length = m at *
    have Hmp := Lib.hid hmp
    have hw1 : IntKind.i64.wrap ((n : Int) - 1) = (m : Int) := by rw [IntKind.wrap_i64]; omega
    have hm0 : (0 : Int) ≤ (m : Int) := by omega
    have hmn : (m : Int) < (n : Int) := by omega
    have hw2 : IntKind.i64.wrap (y.len + o.len) = y.len + o.len := by rw [IntKind.wrap_i64]; omega
    have hsum : y.data.length + o.data.length ≤ 1000 := by rw [Hmy.out, Hq.out]; omega
    have Hnm := Lib.hid hnm
    have hnN : n ≤ 2000 := hn
    clear hnm hmp hmy h hd hdat hys hblk hL
    cases hon : oneB y o with
    | true =>
      go_enter Try.func72, Try.ntmps72
      go_wp2_with fail
      have hs1 : (w.alloc (.cells #[.int .i64 o.kind, .int .i64 o.off, .int .i64 o.len, .slice X q c] 31)).heap.size = w.heap.size + 1 := by simp
      generalize (w.alloc (.cells #[.int .i64 o.kind, .int .i64 o.off, .int .i64 o.len, .slice X q c] 31)) = w1 at *
      have d0 := hac.cell (j := 0) (u := .int .i64 o.kind) rfl
      have d1 := hac.cell (j := 1) (u := .int .i64 o.off) rfl
      have d2 := hac.cell (j := 2) (u := .int .i64 o.len) rfl
      have d3 := hac.cell (j := 3) (u := .slice X q c) rfl
      go_region_held3 (fun w' => w'.cell? ⟨g, m * 4, none⟩ = some (.int .i64 y.kind) ∧ w'.cell? ⟨g, m * 4 + 1, none⟩ = some (.int .i64 y.off) ∧ w'.cell? ⟨g, m * 4 + 2, none⟩ = some (.int .i64 y.len) ∧ w'.cell? ⟨g, m * 4 + 3, none⟩ = some (.slice Y my cy) ∧
          w'.cell? ⟨w.heap.size, 0, none⟩ = some (.int .i64 o.kind) ∧ w'.cell? ⟨w.heap.size, 1, none⟩ = some (.int .i64 o.off) ∧ w'.cell? ⟨w.heap.size, 2, none⟩ = some (.int .i64 o.len) ∧ w'.cell? ⟨w.heap.size, 3, none⟩ = some (.slice X q c))
        (first | go_keep | exact ⟨c0, c1, c2, c3, d0, d1, d2, d3⟩ | exact ⟨(hb2.cell (cell_lt c0)).trans c0, (hb2.cell (cell_lt c1)).trans c1, (hb2.cell (cell_lt c2)).trans c2, (hb2.cell (cell_lt c3)).trans c3, (hb2.cell (cell_lt d0)).trans d0, (hb2.cell (cell_lt d1)).trans d1, (hb2.cell (cell_lt d2)).trans d2, (hb2.cell (cell_lt d3)).trans d3⟩)
        (first
          | (go_at_call 84; refine (one_ _ y o Y X my cy q c hsum hyr hdy.drew hdx.drew).mono ?_; rw [hon]; rintro e w2 ⟨rfl, hb2⟩))
      have hb2' : Below w1.heap.size w1 w2 := below_undrew hb2
      have hO2 : Ol w2 base (.slice (some ⟨g, 0, none⟩) n cap) n (P ++ [(y, .slice Y my cy)]) := hown.keep hb2'
      have hD2 := own_keep hdo hb2'
      have hac2 := hac.keep hb2'
      obtain ⟨g', cap', cur', e', -, -, -, -, -, k0, k1, k2, k3, kz⟩ := ol_last hO2
      rw [Hmp.out] at k0 k1 k2 k3
      injection e' with e' _ e3
      injection e' with e'
      injection e' with e1
      subst e1 e3
      have m2 := hac2.cell (j := 2) (u := .int .i64 o.len) rfl
      have m3 := hac2.cell (j := 3) (u := .slice X q c) rfl
      have kz2 := kz (m * 4 + 2)
      clear c0 c1 c2 c3 d0 d1 d2 d3 hfz
      go_wp2
      go_region
      go_wp2
      have hO3 : Ol (w2.setCell ⟨g, m * 4 + 2, none⟩ (.int .i64 (y.len + o.len))).drew base (.slice (some ⟨g, 0, none⟩) n cap) n (P ++ [({ y with len := y.len + o.len }, .slice Y my cy)]) := by
        have := ol_setLen hO2 (y.len + o.len)
        rw [Hmp.out] at this
        exact ⟨this.row, this.data, this.apart⟩
      have hgg : w2.grownBy (w2.setCell ⟨g, m * 4 + 2, none⟩ (.int .i64 (y.len + o.len))).drew (some g) := grown_drewR (grown_setCell w2 ⟨g, m * 4 + 2, none⟩ (.int .i64 (y.len + o.len)))
      have hD3 := own_grown hD2 hgg (fun k hk e => own_ne hO2.row hD2 (by decide) (g := k) (by rw [e]; rfl) hk)
      have m3' := hgg.cell m3 (by simp only [ne_eq, Option.some.injEq]; omega)
      have hB2 : Below base w w2 := (hba.mono hb).trans (hb2'.mono (Nat.le_trans hb hba.size))
      have hB3 : Below base w (w2.setCell ⟨g, m * 4 + 2, none⟩ (.int .i64 (y.len + o.len))).drew := hB2.grown hgg (Nat.le_trans hb hB2.size) (fun k hk => by injection hk with hk; omega)
      have hsz3 : w.heap.size ≤ (w2.setCell ⟨g, m * 4 + 2, none⟩ (.int .i64 (y.len + o.len))).drew.heap.size := hB3.size
      clear hgg hO2 hD2 hB2 k0 k1 k2 k3 kz kz2 m2 m3 hac2 hown hdo hac hba hb2 hb2'
      generalize (w2.setCell ⟨g, m * 4 + 2, none⟩ (.int .i64 (y.len + o.len))).drew = w3 at *
      obtain ⟨g', cap', cur', e', -, -, -, -, -, k0, k1, k2, k3, kz⟩ := ol_last hO3
      rw [Hmp.out] at k0 k1 k2 k3
      injection e' with e' _ e3
      injection e' with e'
      injection e' with e1
      subst e1 e3
      have hyd3 := hO3.data (_, .slice Y my cy) (List.mem_append_right _ (List.mem_singleton.2 rfl))
      dsimp only at hyd3
      rw [Hmy.out] at hyd3
      have hYne : ∀ k, (Value.slice Y my cy).ownBlock = some k → k ≠ g := fun k hk e => own_ne hO3.row hyd3 (by decide) (g := k) (by rw [e]; rfl) hk
      have q1 := hO3.row
      go_region_law (
        refine step_app _ rfl (.tmp 40) (.tmp 42) _ rfl base 48 i1 _ 1 8 Try.underlying29 hi1 hy0 hy1 Hy.out rfl Nat.one_pos (.slice Y my cy) my _ rfl hyd3 X q c (nvs o.data) rfl (fun h => (hX h).1) (rd_own hD3) (nvs_one _) (by unfold maxLen; omega) (by omega) (Nat.le_trans hb hsz3) ?_
        intro v4 w4 hown4 hg4 hat4
        obtain ⟨A4, c4, rfl, hc4, hm4, hA4⟩ := own_form hown4
        have k4 := hg4.cell k3 (fun e => hYne _ e.symm rfl)
        have f4 := frozen_grown hg4 (kz (m * 4 + 3)) (cell_lt k3) (fun e => hYne _ e.symm rfl))
      all_goals (
        go_wp2
        go_ret
        have hd4 : w4.ownsRow base 48 1 (.slice A4 (my + q) c4) (mergeO y o).data.length (nvs (mergeO y o).data) := by
          have e : (mergeO y o).data.length = my + q := by simp [mergeO, Hmy.out, Hq.out]
          rw [e, mergeO, nvs_app]
          exact hown4
        have hg4' : w3.grownBy w4 (Value.slice Y my cy).ownBlock := ⟨hg4.os, hg4.tape, hg4.output, hg4.size, hg4.block⟩
        have hB4 := grown_below_own hB3 hyd3 hg4' (Nat.le_trans hb hsz3)
        refine ⟨_, n, P ++ [(mergeO y o, .slice A4 (my + q) c4)], rfl, ?_, ?_, ?_⟩
        rotate_left
        · have q := Hj.out
          rw [if_pos hon] at q
          simp only [List.map_append, List.map_cons, List.map_nil]
          exact q.symm
        · exact hB4.setCell hbg _
        · have := ol_setDat hO3 hg4' hd4 (hat4.imp id fun e k hk => by rw [e] at hk; injection hk with hk; exact Nat.le_of_eq hk) rfl rfl rfl
          rw [Hmp.out] at this
          exact this)
    | false =>
      go_enter Try.func72, Try.ntmps72
      go_wp2_with fail
      have hs1 : (w.alloc (.cells #[.int .i64 o.kind, .int .i64 o.off, .int .i64 o.len, .slice X q c] 31)).heap.size = w.heap.size + 1 := by simp
      generalize (w.alloc (.cells #[.int .i64 o.kind, .int .i64 o.off, .int .i64 o.len, .slice X q c] 31)) = w1 at *
      have d0 := hac.cell (j := 0) (u := .int .i64 o.kind) rfl
      have d1 := hac.cell (j := 1) (u := .int .i64 o.off) rfl
      have d2 := hac.cell (j := 2) (u := .int .i64 o.len) rfl
      have d3 := hac.cell (j := 3) (u := .slice X q c) rfl
      go_region_held3 (fun w' => w'.cell? ⟨g, m * 4, none⟩ = some (.int .i64 y.kind) ∧ w'.cell? ⟨g, m * 4 + 1, none⟩ = some (.int .i64 y.off) ∧ w'.cell? ⟨g, m * 4 + 2, none⟩ = some (.int .i64 y.len) ∧ w'.cell? ⟨g, m * 4 + 3, none⟩ = some (.slice Y my cy) ∧
          w'.cell? ⟨w.heap.size, 0, none⟩ = some (.int .i64 o.kind) ∧ w'.cell? ⟨w.heap.size, 1, none⟩ = some (.int .i64 o.off) ∧ w'.cell? ⟨w.heap.size, 2, none⟩ = some (.int .i64 o.len) ∧ w'.cell? ⟨w.heap.size, 3, none⟩ = some (.slice X q c))
        (first | go_keep | exact ⟨c0, c1, c2, c3, d0, d1, d2, d3⟩ | exact ⟨(hb2.cell (cell_lt c0)).trans c0, (hb2.cell (cell_lt c1)).trans c1, (hb2.cell (cell_lt c2)).trans c2, (hb2.cell (cell_lt c3)).trans c3, (hb2.cell (cell_lt d0)).trans d0, (hb2.cell (cell_lt d1)).trans d1, (hb2.cell (cell_lt d2)).trans d2, (hb2.cell (cell_lt d3)).trans d3⟩)
        (first
          | (go_at_call 84; refine (one_ _ y o Y X my cy q c hsum hyr hdy.drew hdx.drew).mono ?_; rw [hon]; rintro e w2 ⟨rfl, hb2⟩))
      have hb2' : Below w1.heap.size w1 w2 := below_undrew hb2
      have hO2 : Ol w2 base (.slice (some ⟨g, 0, none⟩) n cap) n (P ++ [(y, .slice Y my cy)]) := hown.keep hb2'
      have hD2 := own_keep hdo hb2'
      have hac2 := hac.keep hb2'
      have m0 := hac2.cell (j := 0) (u := .int .i64 o.kind) rfl
      have m1 := hac2.cell (j := 1) (u := .int .i64 o.off) rfl
      have m2 := hac2.cell (j := 2) (u := .int .i64 o.len) rfl
      have m3 := hac2.cell (j := 3) (u := .slice X q c) rfl
      have hB2 : Below base w w2 := (hba.mono hb).trans (hb2'.mono (Nat.le_trans hb hba.size))
      have hs2 := hB2.size
      clear c0 c1 c2 c3 d0 d1 d2 d3 hfz
      go_wp2_with (first
        | (at_builtin
           go_must (refine wpList_app _ rfl (.tmp 20) (.tmp 22) _ rfl base 31 i0 _ 4 48 Try.underlying52 hi0 hz0 hz1 Hz.out rfl (by decide) _ n _ rfl (own_keep hO2.row ((Below.refl _ _).alloc (Nat.le_refl _) _)) _ 1 1 (ov4 (o, .slice X q c)) rfl (fun h => by cases h) (rd_op rfl) (ov_one _ _ _ _) (by unfold maxLen; omega) (by omega) (by simp; omega) ?_)
           intro v3 w3 hown3 hg3 hat3))
      go_ret
      have hO3 := hO2.keep (show Below w2.heap.size w2 (w2.alloc (.cells #[.int .i64 o.kind, .int .i64 o.off, .int .i64 o.len, .slice X q c] 31)) from (Below.refl _ _).alloc (Nat.le_refl _) _)
      have hD3 := own_keep hD2 (show Below w2.heap.size w2 (w2.alloc (.cells #[.int .i64 o.kind, .int .i64 o.off, .int .i64 o.len, .slice X q c] 31)) from (Below.refl _ _).alloc (Nat.le_refl _) _)
      refine ⟨v3, n + 1, (P ++ [(y, .slice Y my cy)]) ++ [(o, .slice X q c)], rfl, ol_push hO3 hg3 hown3 (by rw [Hq.out]; exact hD3) hap, ?_, grown_below_own (hB2.alloc (by omega) _) hO3.row hg3 (by simp; omega)⟩
      have q := Hj.out
      rw [if_neg (by rw [hon]; simp)] at q
      simp only [List.map_append, List.map_cons, List.map_nil]
      exact q.symm
end
end Blo
end Go.Proofs.Ytfcfffilfmbpeaa

set_option linter.all false
namespace Go.Proofs.Ytfcfffilfmbpeaa
open Go.RowKit
namespace Blo

theorem last_of {α : Type} {l : List α} {y : α} (h : l.getLast? = some y) : ∃ p, l = p ++ [y] := by
  rcases snoc_cases l with rfl | ⟨p, z, rfl⟩
  · cases h
  · simp at h; subst h; exact ⟨p, rfl⟩
/-- The last op of what is told shortly ends at the block ahead just if that one was touched. -/
theorem short_end {m : Nat → Option Nat} {k : Nat} {y : BOp} (h : (shortS m k).getLast? = some y) : (∃ z, prevOf m k = some z ∧ y.off + y.cnt = (k : Int) ∧ (if z = 0 then y.kind = 2 else y.kind = 1)) ∨ (prevOf m k = none ∧ y.off + y.cnt < (k : Int)) := by
  cases k with
  | zero => cases h
  | succ j =>
    cases hm : m j with
    | some z =>
      obtain ⟨p, y', e, h1, h2⟩ := (short_inv m (j + 1)).last j z rfl hm
      rw [e] at h
      simp at h
      subst h
      exact .inl ⟨z, hm, h1, h2⟩
    | none =>
      refine .inr ⟨hm, ?_⟩
      have e : shortS m (j + 1) = shortS m j := by
        show stepS (shortS m j) (prevOf m j) j (m j) = _
        rw [hm]; rfl
      rw [e] at h
      obtain ⟨p, hp⟩ := last_of h
      have := (short_inv m j).ok y (by rw [hp]; simp)
      have := this.high
      omega
theorem join_short {m : Nat → Option Nat} {k x : Nat} (hm : m k = some x) : joinS (shortS m k) (becomeO k x) = shortS m (k + 1) := by
  show _ = stepS (shortS m k) (prevOf m k) k (m k)
  rw [hm]
  cases hl : (shortS m k).getLast? with
  | none =>
    have h0 : shortS m k = [] := by simpa using hl
    rw [h0]
    cases x with
    | zero => rfl
    | succ x => rfl
  | some y =>
    obtain ⟨p, hp⟩ := last_of hl
    have hok := (short_inv m k).ok y (by rw [hp]; simp)
    have hfr := from_ok hok
    have hend := short_end hl
    have hj : joinS (shortS m k) (becomeO k x) = if oneB y (becomeO k x) then (shortS m k).dropLast ++ [mergeO y (becomeO k x)] else shortS m k ++ [becomeO k x] := by
      unfold joinS; rw [hl]
    rw [hj]
    cases x with
    | zero =>
      have hb : becomeO k 0 = ⟨2, k, 1, []⟩ := rfl
      rw [hb]
      unfold stepS
      rw [hl]
      simp only
      by_cases hc : prevOf m k = some 0
      · rcases hend with ⟨z, hz, h1, h2⟩ | ⟨h1, _⟩
        · rw [hc] at hz
          injection hz with hz
          subst hz
          rw [if_pos rfl] at h2
          have hd : y.data = [] := by
            rcases hok.form with q | q
            · omega
            · exact q.2
          have ho : oneB y ⟨2, k, 1, []⟩ = true := by
            unfold oneB
            rw [hfr]
            simp [h1, h2, hd]
          rw [if_pos ho, if_pos hc]
          simp [mergeO]
        · rw [hc] at h1; cases h1
      · have ho : ¬ oneB y ⟨2, k, 1, []⟩ = true := by
          unfold oneB
          rw [hfr]
          intro q
          simp only [Bool.and_eq_true, decide_eq_true_eq] at q
          rcases hend with ⟨z, hz, h1, h2⟩ | ⟨_, h1⟩
          · by_cases hz0 : z = 0
            · subst hz0; exact hc hz
            · rw [if_neg hz0] at h2; omega
          · omega
        rw [if_neg ho, if_neg hc]
    | succ x =>
      have hb : becomeO k (x + 1) = ⟨1, k, 0, [x + 1]⟩ := rfl
      rw [hb]
      unfold stepS
      rw [hl]
      simp only
      by_cases hc : ((prevOf m k).isSome && prevOf m k != some 0) = true ∧ y.data.length < 64
      · rcases hend with ⟨z, hz, h1, h2⟩ | ⟨h1, _⟩
        · have hz0 : z ≠ 0 := by intro e; subst e; rw [hz] at hc; simp at hc
          rw [if_neg hz0] at h2
          have ho : oneB y ⟨1, k, 0, [x + 1]⟩ = true := by
            unfold oneB
            rw [hfr]
            simp [h1, h2]
            omega
          rw [if_pos ho, if_pos hc]
          simp [mergeO]
        · rw [h1] at hc; simp at hc
      · have ho : ¬ oneB y ⟨1, k, 0, [x + 1]⟩ = true := by
          unfold oneB
          rw [hfr]
          intro q
          simp only [Bool.and_eq_true, decide_eq_true_eq, List.length_singleton] at q
          rcases hend with ⟨z, hz, h1, h2⟩ | ⟨_, h1⟩
          · have hz0 : z ≠ 0 := by intro e; subst e; rw [if_pos rfl] at h2; omega
            exact hc ⟨by rw [hz]; simp [hz0], by omega⟩
          · omega
        rw [if_neg ho, if_neg hc]
theorem short_length (m : Nat → Option Nat) : ∀ k, (shortS m k).length ≤ k
  | 0 => Nat.le_refl _
  | k + 1 => by
    have ih := short_length m k
    show (stepS (shortS m k) (prevOf m k) k (m k)).length ≤ k + 1
    cases hm : m k with
    | none => exact Nat.le_succ_of_le ih
    | some x =>
      have := join_short hm
      have e : stepS (shortS m k) (prevOf m k) k (some x) = joinS (shortS m k) (becomeO k x) := by rw [this]; show _ = stepS _ _ _ (m k); rw [hm]
      rw [e]
      unfold joinS
      split
      · split <;> simp <;> omega
      · simp; omega
theorem short_low {m : Nat → Option Nat} (h : ∀ i x, m i = some x → x < 18446744073709551616) : ∀ k, ∀ o ∈ shortS m k, ∀ z ∈ o.data, z < 18446744073709551616
  | 0, o, ho => by simp [shortS] at ho
  | k + 1, o, ho => by
    have ih := short_low h k
    cases hm : m k with
    | none =>
      have e : shortS m (k + 1) = shortS m k := by
        show stepS (shortS m k) (prevOf m k) k (m k) = _
        rw [hm]; rfl
      rw [e] at ho
      exact ih o ho
    | some x =>
      rw [← join_short hm] at ho
      have hb : ∀ z ∈ (becomeO k x).data, z < 18446744073709551616 := by
        unfold becomeO
        split
        · simp
        · simp only [List.mem_singleton]; rintro z rfl; exact h k z hm
      unfold joinS at ho
      split at ho
      · rename_i y hy
        obtain ⟨p, hp⟩ := last_of hy
        split at ho
        · rcases List.mem_append.1 ho with ho | ho
          · exact ih o ((List.dropLast_sublist _).subset ho)
          · rw [List.mem_singleton.1 ho]
            intro z hz
            rcases List.mem_append.1 hz with hz | hz
            · exact ih y (by rw [hp]; simp) z hz
            · exact hb z hz
        · rcases List.mem_append.1 ho with ho | ho
          · exact ih o ho
          · rw [List.mem_singleton.1 ho]; exact hb
      · rcases List.mem_append.1 ho with ho | ho
        · exact ih o ho
        · rw [List.mem_singleton.1 ho]; exact hb
theorem short_sml {m : Nat → Option Nat} (h : ∀ i x, m i = some x → x < 18446744073709551616) {k : Nat} (hk : k ≤ 1024) : ∀ o ∈ shortS m k, Sml o := fun o ho => sml_of (n := (k : Int)) ((short_inv m k).ok o ho) (by omega) (short_low h k o ho)
theorem become_ok (k x : Nat) : (becomeO k x).Ok ((k + 1 : Nat) : Int) := by
  unfold becomeO
  split
  · exact ⟨by simp, by simp [BOp.cnt], by simp [BOp.cnt], .inr ⟨rfl, rfl⟩⟩
  · exact ⟨by simp, by simp [BOp.cnt], by simp [BOp.cnt], .inl ⟨rfl, rfl, by simp⟩⟩
theorem become_low {k x : Nat} (h : x < 18446744073709551616) : ∀ z ∈ (becomeO k x).data, z < 18446744073709551616 := by
  unfold becomeO
  split
  · simp
  · simp only [List.mem_singleton]; rintro z rfl; exact h
/-- What has come of each block. -/
def tof (tc : Nat → Bool) (f : Int → Nat) (i : Nat) : Option Nat := if tc i then some (f (i : Int)) else none
theorem tof_low {tc : Nat → Bool} {f : Int → Nat} (h : low64 f) : ∀ i x, tof tc f i = some x → x < 18446744073709551616 := fun i x hx => by
  unfold tof at hx
  split at hx
  · injection hx with hx; rw [← hx]; exact h _
  · cases hx
/-- Boolean rows. -/
def tvs (n : Nat) (tc : Nat → Bool) : List Value := (List.range n).map fun i => Value.bool (tc i)
theorem tvs_at {n i : Nat} (tc : Nat → Bool) (h : i < n) : (tvs n tc)[i]? = some (.bool (tc i)) := by simp [tvs, h]
theorem tvs_length (n : Nat) (tc : Nat → Bool) : (tvs n tc).length = n := by simp [tvs]
section
variable (w : World)
set_option maxRecDepth 100000 in
set_option maxHeartbeats 2000000 in
theorem shortly_ (A T : Option Addr) (n c tcap : Nat) (f : Int → Nat) (tc : Nat → Bool) (hn : n ≤ 1024) (hv : Ns w A n (vol n f)) (hl : low64 f) (ht : Rd w T 1 n (tvs n tc)) :
    Calls Try.prog 54 #[.slice A n c, .slice T n tcap] w fun e w' => Told w w' w.heap.size e (shortS (tof tc f) n) := by
  go_enter Try.func54, Try.ntmps54
  go_wp2_with fail
  go_loopw [10, 5] (fun iv vv wr => ∃ (i nn : Nat) (L : List (BOp × Value)), i ≤ n ∧ iv = .int .i64 (i : Int) ∧ Ol wr w.heap.size vv nn L ∧ L.map Prod.fst = shortS (tof tc f) i ∧ Below w.heap.size w wr) (fun iv _ _ => n - (intOf iv).toNat)
  case atStart => exact ⟨0, 0, [], Nat.zero_le _, rfl, Ol.nil _ _, rfl, Below.refl _ _⟩
  case round =>
    obtain ⟨i, nn, L, hi, rfl, hO, hLm, hb⟩ := hrel
    obtain ⟨Ar, cr, rfl, -, -, -⟩ := own_form hO.row
    by_cases hlt : i < n
    · have hil : (i : Int) < (n : Int) := by omega
      have hi0 : (0 : Int) ≤ (i : Int) := by omega
      obtain ⟨b, o, rfl, hx, hc, hxl⟩ := (hv.below hb).at_ hlt
      have hxe : (vol n f)[i] = f (i : Int) := by
        have := vol_at f hlt
        rw [List.getElem?_eq_getElem hx] at this
        injection this
      rw [hxe] at hc hxl
      obtain ⟨b', o', rfl, hx', hc'⟩ := (ht.below hb).at_ hlt
      have hxe' : (tvs n tc)[i] = .bool (tc i) := by
        have := tvs_at tc hlt
        rw [List.getElem?_eq_getElem hx'] at this
        injection this
      rw [hxe'] at hc'
      clear hxe hxe' hx hx' hv ht
      generalize hfx : f (i : Int) = x at *
      have Hx := Lib.hid hfx
      clear hfx
      cases htc : tc i with
      | true =>
        rw [htc] at hc'
        have Hm := Lib.hid (show tof tc f i = some x by unfold tof; rw [htc, if_pos rfl, Hx.out])
        have Hsm := Lib.hid (short_sml (tof_low (tc := tc) hl) (k := i) (by omega))
        have hnn : nn ≤ 2000 := by
          have h1 := hO.len
          have h2 : (L.map Prod.fst).length = (shortS (tof tc f) i).length := by rw [hLm]
          have h3 := short_length (tof tc f) i
          rw [List.length_map] at h2
          omega
        clear htc
        go_wp2_with fail
        refine (become_ wr i x (by omega) hxl).mono ?_
        rintro e w2 ⟨d, rfl, hd, hb2⟩
        have hO2 := hO.keep hb2
        have hB2 := below_step hb hb2 (Nat.le_refl _)
        have hd2 := hd.mono hb.size
        have hap : ∀ p ∈ L, ∀ g, p.2.ownBlock = some g → d.ownBlock ≠ some g := fun p hp g hg e => by
          have h1 := ((hO.data p hp).lt g hg).2
          have h2 := (hd.lt g e).1
          omega
        have hs : Sml (becomeO i x) := sml_of (become_ok i x) (by omega) (become_low hxl)
        have hbz := hB2.size
        have HL := Lib.hid hLm
        clear hc hc' hb2 hd hO hb hLm
        go_wp2_with fail
        refine (join_ w2 w.heap.size _ nn L (becomeO i x) d hO2 hbz hnn (fun p hp => Hsm.out p.1 (by rw [← HL.out]; exact List.mem_map_of_mem hp)) hs hd2 hap).mono ?_
        rintro e w3 ⟨v3, n3, L3, rfl, hO3, hL3, hb3⟩
        have HL3 := Lib.hid (show L3.map Prod.fst = shortS (tof tc f) (i + 1) by rw [hL3, HL.out, join_short Hm.out])
        have hB3 : Below w.heap.size w w3 := hB2.trans hb3
        clear hL3
        go_wp2
        go_roundw
        case rel => exact ⟨i + 1, n3, L3, by omega, by go_num, hO3, HL3.out, hB3⟩
        case measure => simp [intOf]; omega
      | false =>
        rw [htc] at hc'
        have Hm := Lib.hid (show shortS (tof tc f) (i + 1) = shortS (tof tc f) i by
          show stepS _ _ _ (tof tc f i) = _
          unfold tof
          rw [htc]
          rfl)
        clear htc
        go_wp2
        go_roundw
        case rel => exact ⟨i + 1, nn, L, by omega, by go_num, hO, by rw [Hm.out]; exact hLm, hb⟩
        case measure => simp [intOf]; omega
    · have hin : (n : Int) ≤ (i : Int) := by omega
      have hen : i = n := by omega
      have HL := Lib.hid (show L.map Prod.fst = shortS (tof tc f) n by rw [← hen]; exact hLm)
      clear hLm hen
      go_wp2
      go_ret
      exact ⟨_, nn, L, rfl, hO, HL.out, hb⟩
end
end Blo
end Go.Proofs.Ytfcfffilfmbpeaa
