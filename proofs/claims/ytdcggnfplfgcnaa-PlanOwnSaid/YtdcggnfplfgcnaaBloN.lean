/- XBloE, XBloF, XBloG, XBloH, XBloI, XBloJ, XBloK, XBloL, XBloN. -/
import Derived.Test.YtdcggnfplfgcnaaBloD
import Derived.Deep.RegionLaw
set_option linter.all false
namespace Go.Proofs.Ytdcggnfplfgcnaa
open Go.RowKit
namespace Blo

/-- What Apply answers: the error's number, the volume. -/
def apE (n : Nat) (l : List BOp) : Int := if manyB n then (if l.all (·.right n) then 0 else 1) else 6
def apL (v : List Nat) (l : List BOp) : List Nat := if manyB v.length then (if l.all (·.right v.length) then vol v.length (l.foldl doF (fun_ v)) else []) else []
/-- Rows of numbers that were answered. -/
structure GotN (w : World) (B : Nat) (A : Option Addr) (m c : Nat) (l : List Nat) : Prop where
  own : w.ownsRow B 64 1 (.slice A m c) m (nvs l)
  low : ∀ z ∈ l, z < 18446744073709551616
theorem GotN.ns {w : World} {B : Nat} {A : Option Addr} {m c : Nat} {l : List Nat} (h : GotN w B A m c l) : Ns w A m l := no_ns h.own h.low
theorem GotN.keep {w w' : World} {B : Nat} {A : Option Addr} {m c : Nat} {l : List Nat} (h : GotN w B A m c l) (hb : Below w.heap.size w w') : GotN w' B A m c l := ⟨own_keep h.own hb, h.low⟩
theorem GotN.no (w : World) (B : Nat) : GotN w B none 0 0 [] := ⟨own_nil _ _ _ _, by simp⟩
theorem GotN.bounds {w : World} {B : Nat} {A : Option Addr} {m c : Nat} {l : List Nat} (h : GotN w B A m c l) : m ≤ c ∧ c ≤ 9223372036854775807 ∧ (A = none → m = 0 ∧ c = 0) := by
  obtain ⟨A', c', e, h1, h2, h3⟩ := own_form h.own
  injection e with e1 _ e3
  subst e1 e3
  exact ⟨h1, by unfold maxLen at h2; omega, h3⟩
def AnsN (w w' : World) (e : Ending) (er : Int) (l : List Nat) : Prop := ∃ A m c, e = .returned (.tuple #[.slice A m c, .int .i64 er]) ∧ GotN w' w.heap.size A m c l ∧ Below w.heap.size w w'
theorem foldl_low {l : List BOp} (hd : ∀ o ∈ l, ∀ z ∈ o.data, z < 18446744073709551616) {f : Int → Nat} (h : low64 f) : low64 (l.foldl doF f) := by
  induction l generalizing f with
  | nil => exact h
  | cons o l ih => exact ih (fun x hx => hd x (by simp [hx])) (low_do h (hd o (by simp)))
theorem Opl.low {w : World} {A : Option Addr} {n : Nat} {l : List BOp} (h : Opl w A n l) : ∀ o ∈ l, ∀ z ∈ o.data, z < 18446744073709551616 := fun o ho => by
  obtain ⟨k, hk, rfl⟩ := List.getElem_of_mem ho
  obtain ⟨b, o, X, m, c, _, _, _, _, _, hd⟩ := h.each k hk
  exact hd.ns.2
theorem apL_low {v : List Nat} {l : List BOp} (hv : ∀ z ∈ v, z < 18446744073709551616) (hd : ∀ o ∈ l, ∀ z ∈ o.data, z < 18446744073709551616) : ∀ z ∈ apL v l, z < 18446744073709551616 := by
  unfold apL
  split
  · split
    · exact vol_low (foldl_low hd (fun_low hv))
    · simp
  · simp
theorem dat_alloc {w : World} {o : BOp} {X : Option Addr} {m c : Nat} (h : Dat w o X m c) (x : Obj) : Dat (w.alloc x) o X m c := h.below ((Below.refl _ _).alloc (Nat.le_refl _) _)
section
variable (w : World)
theorem range_at (o : BOp) (X : Option Addr) (m c : Nat) (h : Dat w o X m c) (k q : Nat) (hk : o.from_ = (k : Int)) (hq : o.cnt = (q : Int)) : Calls Try.prog 35 #[.agg #[.int .i64 o.kind, .int .i64 o.off, .int .i64 o.len, .slice X m c]] w fun e w' => e = .returned (.tuple #[.int .i64 (k : Int), .int .i64 (q : Int)]) ∧ Below w.heap.size w w' := by
  have := range_ w o X m c h
  rw [hk, hq] at this
  exact this
theorem rrange_at (o : BOp) (X : Option Addr) (m c : Nat) (h : Dat w o X m c) (k q : Nat) (hk : o.from_ = (k : Int)) (hq : o.cnt = (q : Int)) : Calls Try.prog 30 #[.agg #[.int .i64 o.kind, .int .i64 o.off, .int .i64 o.len, .slice X m c]] w fun e w' => e = .returned (.tuple #[.int .i64 (k : Int), .int .i64 (q : Int)]) ∧ Below w.heap.size w w' := by
  have := rrange_ w o X m c h
  rw [hk, hq] at this
  exact this
end
end Blo
end Go.Proofs.Ytdcggnfplfgcnaa

set_option linter.all false
namespace Go.Proofs.Ytdcggnfplfgcnaa
open Go.RowKit
namespace Blo

theorem all_right {l : List BOp} {n : Int} (h : l.all (·.right n) = true) {x : BOp} (hx : x ∈ l) : x.Ok n := (ok_of_right (List.all_eq_true.1 h x hx)).1
theorem many_nat {n : Nat} (h : manyB n = true) : n ≤ 1024 := by
  simp only [manyB, Bool.and_eq_true, decide_eq_true_eq] at h; omega
section
variable (w : World)
end
end Blo
end Go.Proofs.Ytdcggnfplfgcnaa

set_option linter.all false
namespace Go.Proofs.Ytdcggnfplfgcnaa
open Go.RowKit
namespace Blo

section
variable (w : World)
end
end Blo
end Go.Proofs.Ytdcggnfplfgcnaa

set_option linter.all false
namespace Go.Proofs.Ytdcggnfplfgcnaa
open Go.RowKit
namespace Blo

def becomeO (k : Nat) (x : Nat) : BOp := if x = 0 then ⟨2, k, 1, []⟩ else ⟨1, k, 0, [x]⟩
theorem results_op {fn : Func} {W : World} {q k : Nat} {x y z d : Value} {tmps : Array Value} (h : fn.results = #[.cell k 27]) (h2 : tmps.getD k undef = .pointer (some ⟨q, 0, none⟩)) (hb : Blk W q 27 #[x, y, z, d]) :
    (results fn tmps).run Try.prog W = .ok (.agg #[x, y, z, d]) W := by
  have d0 := hb.cell (j := 0) rfl
  have d1 := hb.cell (j := 1) rfl
  have d2 := hb.cell (j := 2) rfl
  have d3 := hb.cell (j := 3) rfl
  have h2' : tmps[k]?.getD undef = .pointer (some ⟨q, 0, none⟩) := by simpa using h2
  simp [results, h, h2', go_sem, d0, d1, d2, d3]
section
variable (w : World)
/-! ### one -/
def oneB (a b : BOp) : Bool := decide (a.kind = b.kind) && decide (a.from_ + a.cnt = b.off) && decide (a.data.length + b.data.length ≤ 64)
end
end Blo
end Go.Proofs.Ytdcggnfplfgcnaa

set_option linter.all false
namespace Go.Proofs.Ytdcggnfplfgcnaa
open Go.RowKit
namespace Blo

abbrev ov4 (p : BOp × Value) : List Value := [.int .i64 p.1.kind, .int .i64 p.1.off, .int .i64 p.1.len, p.2]
def ovs (L : List (BOp × Value)) : List Value := L.flatMap ov4
theorem ovs_app (L L' : List (BOp × Value)) : ovs (L ++ L') = ovs L ++ ovs L' := by simp [ovs]
theorem ovs_snoc (L : List (BOp × Value)) (p : BOp × Value) : ovs (L ++ [p]) = ovs L ++ ov4 p := by rw [ovs_app]; simp [ovs]
theorem ovs_cons (p : BOp × Value) (L : List (BOp × Value)) : ovs (p :: L) = ov4 p ++ ovs L := rfl
theorem ovs_len : ∀ L : List (BOp × Value), (ovs L).length = L.length * 4
  | [] => rfl
  | p :: L => by rw [ovs_cons, List.length_append, ovs_len L, List.length_cons]; simp; omega
theorem ovs_at : ∀ {L : List (BOp × Value)} {k : Nat} (h : k < L.length) {j : Nat} (_ : j < 4), (ovs L)[k * 4 + j]? = (ov4 L[k])[j]?
  | p :: L, 0, _, j, hj => by
    rw [ovs_cons, List.getElem?_append_left (by simp; omega)]
    simp
  | p :: L, k + 1, h, j, hj => by
    rw [ovs_cons, List.getElem?_append_right (by simp; omega)]
    have e : (k + 1) * 4 + j - (ov4 p).length = k * 4 + j := by simp; omega
    rw [e, ovs_at (L := L) (by simpa using h) hj]
    simp
/-- v is a row of the call's own, of ops, whose numbers lie in rows of the call's own. -/
structure Ol (w : World) (base : Nat) (v : Value) (n : Nat) (L : List (BOp × Value)) : Prop where
  row : w.ownsRow base 27 4 v n (ovs L)
  data : ∀ p ∈ L, w.ownsRow base 64 1 p.2 p.1.data.length (nvs p.1.data)
  apart : L.Pairwise fun p q => ∀ g, p.2.ownBlock = some g → q.2.ownBlock ≠ some g
theorem Ol.len {w : World} {base : Nat} {v : Value} {n : Nat} {L : List (BOp × Value)} (h : Ol w base v n L) : n = L.length := by have := h.row.1; rw [ovs_len] at this; omega
theorem Ol.keep {w w' : World} {base : Nat} {v : Value} {n : Nat} {L : List (BOp × Value)} (h : Ol w base v n L) (hb : Below w.heap.size w w') : Ol w' base v n L := ⟨own_keep h.row hb, fun p hp => own_keep (h.data p hp) hb, h.apart⟩
theorem Ol.nil (w : World) (base : Nat) : Ol w base (.slice none 0 0) 0 [] := ⟨own_nil _ _ _ _, by simp, by simp⟩
theorem Ol.mono {w : World} {base base' : Nat} {v : Value} {n : Nat} {L : List (BOp × Value)} (h : Ol w base v n L) (hb : base' ≤ base) : Ol w base' v n L := ⟨h.row.mono hb, fun p hp => (h.data p hp).mono hb, h.apart⟩
/-- The last op: its cells, and what is written over them. -/
theorem ol_last {w : World} {base : Nat} {v : Value} {n : Nat} {P : List (BOp × Value)} {y : BOp} {dy : Value} (h : Ol w base v n (P ++ [(y, dy)])) : ∃ g cap cur, v = .slice (some ⟨g, 0, none⟩) n cap ∧ n ≤ cap ∧ cap ≤ maxLen ∧ base ≤ g ∧ n = P.length + 1 ∧ Blk w g 27 cur ∧
    w.cell? ⟨g, P.length * 4, none⟩ = some (.int .i64 y.kind) ∧ w.cell? ⟨g, P.length * 4 + 1, none⟩ = some (.int .i64 y.off) ∧ w.cell? ⟨g, P.length * 4 + 2, none⟩ = some (.int .i64 y.len) ∧ w.cell? ⟨g, P.length * 4 + 3, none⟩ = some dy ∧ (∀ j, w.frozen? ⟨g, j, none⟩ = false) := by
  have hl := h.len
  rw [List.length_append, List.length_singleton] at hl
  rcases h.row.2 with ⟨_, h0⟩ | ⟨g, cap, cur, rfl, hg, hh, hnc, hcm, hcs, hx⟩
  · omega
  have hb : Blk w g 27 cur := hh
  have hc : ∀ j (u : Value), (ov4 (y, dy))[j]? = some u → w.cell? ⟨g, P.length * 4 + j, none⟩ = some u := fun j u hu => by
    refine hb.cell ?_
    have h1 : (ovs (P ++ [(y, dy)]))[P.length * 4 + j]? = some u := by
      rw [ovs_snoc, List.getElem?_append_right (by rw [ovs_len]; omega), ovs_len, Nat.add_sub_cancel_left]
      exact hu
    rw [← hx, List.getElem?_take] at h1
    split at h1
    · simpa using h1
    · cases h1
  exact ⟨g, cap, cur, rfl, hnc, hcm, hg, hl, hb, hc 0 _ rfl, hc 1 _ rfl, hc 2 _ rfl, hc 3 _ rfl, fun j => hb.free _⟩
/-- A cell of the last op, written over. -/
theorem row_set {w : World} {base g cap n : Nat} {P : List (BOp × Value)} {y y' : BOp} {dy dy' : Value} (h : w.ownsRow base 27 4 (.slice (some ⟨g, 0, none⟩) n cap) n (ovs (P ++ [(y, dy)]))) (j : Nat) (u : Value) (hj : j < 4) (hu : (ov4 (y, dy)).set j u = ov4 (y', dy')) :
    (w.setCell ⟨g, P.length * 4 + j, none⟩ u).ownsRow base 27 4 (.slice (some ⟨g, 0, none⟩) n cap) n (ovs (P ++ [(y', dy')])) := by
  have hl := h.1
  rw [ovs_len, List.length_append, List.length_singleton] at hl
  rcases h.2 with ⟨e, _⟩ | ⟨g', cap', cur, e, hg, hh, hnc, hcm, hcs, hx⟩
  · cases e
  injection e with e _ e3
  injection e with e
  injection e with e
  subst e e3
  have hb : Blk w g 27 cur := hh
  refine ⟨by rw [ovs_len]; simp; omega, .inr ⟨g, cap, cur.setIfInBounds (P.length * 4 + j) u, rfl, hg, hb.setCell _ _, hnc, hcm, by simp [hcs], ?_⟩⟩
  rw [Array.toList_setIfInBounds, List.take_set, hx, ovs_snoc, ovs_snoc, List.set_append_right _ _ (by rw [ovs_len]; omega), ovs_len, Nat.add_sub_cancel_left, hu]
theorem ol_setLen {w : World} {base g cap n : Nat} {P : List (BOp × Value)} {y : BOp} {dy : Value} (h : Ol w base (.slice (some ⟨g, 0, none⟩) n cap) n (P ++ [(y, dy)])) (z : Int) : Ol (w.setCell ⟨g, P.length * 4 + 2, none⟩ (.int .i64 z)) base (.slice (some ⟨g, 0, none⟩) n cap) n (P ++ [({ y with len := z }, dy)]) := by
  have hne : ∀ p ∈ P ++ [(y, dy)], ∀ k, p.2.ownBlock = some k → some k ≠ some g := fun p hp k hk e => by
    injection e with e
    subst e
    exact own_ne h.row (h.data p hp) (by decide) (g := k) rfl hk
  refine ⟨row_set h.row 2 _ (by omega) rfl, fun p hp => ?_, ?_⟩
  · rcases List.mem_append.1 hp with hp | hp
    · exact own_grown (h.data p (by simp [hp])) (grown_setCell w ⟨g, P.length * 4 + 2, none⟩ (.int .i64 z)) (hne p (by simp [hp]))
    · rw [List.mem_singleton.1 hp]
      exact own_grown (h.data (y, dy) (by simp)) (grown_setCell w ⟨g, P.length * 4 + 2, none⟩ (.int .i64 z)) (hne (y, dy) (by simp))
  · have := List.pairwise_append.1 h.apart
    rw [List.pairwise_append]
    refine ⟨this.1, by simp, fun a ha b hb => ?_⟩
    rw [List.mem_singleton.1 hb]
    exact this.2.2 a ha (y, dy) (by simp)
theorem ol_setDat {w w' : World} {base g cap n : Nat} {P : List (BOp × Value)} {y y' : BOp} {dy d' : Value} (h : Ol w base (.slice (some ⟨g, 0, none⟩) n cap) n (P ++ [(y, dy)])) (hg : w.grownBy w' dy.ownBlock) (hd : w'.ownsRow base 64 1 d' y'.data.length (nvs y'.data)) (hat : d'.ownBlock = dy.ownBlock ∨ ∀ k, d'.ownBlock = some k → w.heap.size ≤ k)
    (h1 : y'.kind = y.kind) (h2 : y'.off = y.off) (h3 : y'.len = y.len) : Ol (w'.setCell ⟨g, P.length * 4 + 3, none⟩ d') base (.slice (some ⟨g, 0, none⟩) n cap) n (P ++ [(y', d')]) := by
  have hap := List.pairwise_append.1 h.apart
  have hrow : w'.ownsRow base 27 4 (.slice (some ⟨g, 0, none⟩) n cap) n (ovs (P ++ [(y, dy)])) := own_grown h.row hg (fun k hk e => own_ne h.row (h.data (y, dy) (by simp)) (by decide) hk e.symm)
  have hdat : ∀ p ∈ P, w'.ownsRow base 64 1 p.2 p.1.data.length (nvs p.1.data) := fun p hp => own_grown (h.data p (by simp [hp])) hg (fun k hk e => hap.2.2 p hp (y, dy) (by simp) k hk e.symm)
  have hne : ∀ {v : Value} {m : Nat} {xs : List Value}, w'.ownsRow base 64 1 v m xs → ∀ k, v.ownBlock = some k → some k ≠ some g := fun hv k hk e => by
    injection e with e
    subst e
    exact own_ne hrow hv (by decide) (g := k) rfl hk
  refine ⟨row_set hrow 3 _ (by omega) (by simp [h1, h2, h3]), fun p hp => ?_, ?_⟩
  · rcases List.mem_append.1 hp with hp | hp
    · exact own_grown (hdat p hp) (grown_setCell w' ⟨g, P.length * 4 + 3, none⟩ d') (hne (hdat p hp))
    · rw [List.mem_singleton.1 hp]
      exact own_grown hd (grown_setCell w' ⟨g, P.length * 4 + 3, none⟩ d') (hne hd)
  · rw [List.pairwise_append]
    refine ⟨hap.1, by simp, fun a ha b hb k hk => ?_⟩
    rw [List.mem_singleton.1 hb]
    rcases hat with e | e
    · simp only
      rw [e]
      exact hap.2.2 a ha (y, dy) (by simp) k hk
    · intro q
      have h5 := e k q
      have h6 := ((h.data a (by simp [ha])).lt k hk).2
      omega
/-- An op more. -/
theorem ol_push {w w' : World} {base : Nat} {v v' : Value} {n : Nat} {L : List (BOp × Value)} {y : BOp} {dy : Value} (h : Ol w base v n L) (hg : w.grownBy w' v.ownBlock) (hr : w'.ownsRow base 27 4 v' (n + 1) (ovs L ++ ov4 (y, dy))) (hd : w.ownsRow base 64 1 dy y.data.length (nvs y.data)) (hap : ∀ p ∈ L, ∀ g, p.2.ownBlock = some g → dy.ownBlock ≠ some g) : Ol w' base v' (n + 1) (L ++ [(y, dy)]) := by
  have hne : ∀ {u : Value} {m : Nat} {xs : List Value}, w.ownsRow base 64 1 u m xs → ∀ k, u.ownBlock = some k → some k ≠ v.ownBlock := fun hu k hk e => own_ne h.row hu (by decide) e.symm hk
  refine ⟨by rw [ovs_snoc]; exact hr, fun p hp => ?_, ?_⟩
  · rcases List.mem_append.1 hp with hp | hp
    · exact own_grown (h.data p hp) hg (hne (h.data p hp))
    · rw [List.mem_singleton.1 hp]
      exact own_grown hd hg (hne hd)
  · rw [List.pairwise_append]
    refine ⟨h.apart, by simp, fun a ha b hb => ?_⟩
    rw [List.mem_singleton.1 hb]
    exact hap a ha
theorem info_op : (Try.prog.info? 27).map (fun i => (i.zero, i.size, i.bytes)) = some (some (.agg #[.int .i64 0, .int .i64 0, .int .i64 0, .slice none 0 0]), 4, 48) := by kernel_rfl
theorem op_info : ∃ i, Try.prog.info? 27 = some i ∧ i.zero = some (.agg #[.int .i64 0, .int .i64 0, .int .i64 0, .slice none 0 0]) ∧ i.size = 4 ∧ i.bytes = 48 := by
  obtain ⟨i, hi, he⟩ := Option.map_eq_some_iff.1 info_op
  simp only [Prod.mk.injEq] at he
  exact ⟨i, hi, he.1, he.2.1, he.2.2⟩
theorem snoc_cases {α : Type} (l : List α) : l = [] ∨ ∃ p y, l = p ++ [y] := by
  rcases List.eq_nil_or_concat l with h | ⟨p, y, h⟩
  · exact .inl h
  · exact .inr ⟨p, y, by simpa using h⟩
/-- An op that is told: its numbers are small. -/
structure Sml (o : BOp) : Prop where
  fit : FitB o
  low : ∀ z ∈ o.data, z < 18446744073709551616
  short : o.data.length ≤ 64
  rng : I64 (o.from_ + o.cnt)
  lenB : -2000 ≤ o.len ∧ o.len ≤ 2000
theorem sml_of {o : BOp} {n : Int} (h : o.Ok n) (hn : n ≤ 1024) (hl : ∀ z ∈ o.data, z < 18446744073709551616) : Sml o := by
  have h1 := h.low
  have h2 := h.high
  have h3 := h.some
  have h4 : o.from_ = o.off := from_ok h
  rcases h.form with ⟨k1, k2, k3⟩ | ⟨k1, k2⟩
  · refine ⟨⟨?_, ?_, ?_⟩, hl, k3, ?_, ?_⟩ <;> (try unfold I64) <;> omega
  · have hc : o.cnt = o.len := by unfold BOp.cnt; rw [if_neg (by omega), if_pos k1]
    refine ⟨⟨?_, ?_, ?_⟩, hl, by rw [k2]; simp, ?_, ?_⟩ <;> (try unfold I64) <;> omega
theorem dat_own {w : World} {base : Nat} {o : BOp} {A : Option Addr} {m c : Nat} (h : w.ownsRow base 64 1 (.slice A m c) m (nvs o.data)) (ho : Sml o) : Dat w o A m c := by
  have hm : m = o.data.length := by have := h.1; rw [nvs_length] at this; omega
  obtain ⟨A', c', e, h1, h2, h3⟩ := own_form h
  injection e with e1 _ e3
  subst e1 e3
  have := ho.short
  exact ⟨no_ns h ho.low, h3, h1, by unfold maxLen at h2; omega, by omega, ho.fit⟩
def mergeO (y o : BOp) : BOp := { y with len := y.len + o.len, data := y.data ++ o.data }
def joinS (l : List BOp) (o : BOp) : List BOp := match l.getLast? with
  | some y => if oneB y o then l.dropLast ++ [mergeO y o] else l ++ [o]
  | none => l ++ [o]
theorem joinS_nil (o : BOp) : joinS [] o = [o] := rfl
theorem joinS_snoc (p : List BOp) (y o : BOp) : joinS (p ++ [y]) o = if oneB y o then p ++ [mergeO y o] else (p ++ [y]) ++ [o] := by
  unfold joinS
  simp
end Blo
end Go.Proofs.Ytdcggnfplfgcnaa

set_option linter.all false
namespace Go.Proofs.Ytdcggnfplfgcnaa
open Go.RowKit
namespace Blo

theorem ov_one (o : BOp) (X : Option Addr) (m c : Nat) : ∀ u ∈ ov4 (o, .slice X m c), u.oneCell' = true := by
  intro u hu
  simp only [ov4, List.mem_cons, List.not_mem_nil, or_false] at hu
  rcases hu with rfl | rfl | rfl | rfl <;> rfl
theorem rd_op {w : World} {o : BOp} {X : Option Addr} {m c g : Nat} {t : TypeId} (hg : g = w.heap.size) : Rd (w.alloc (.cells #[.int .i64 o.kind, .int .i64 o.off, .int .i64 o.len, .slice X m c] t)) (some ⟨g, 0, none⟩) 4 1 (ov4 (o, .slice X m c)) := by
  subst hg
  exact Rd.new w #[.int .i64 o.kind, .int .i64 o.off, .int .i64 o.len, .slice X m c] t (0, 0) rfl
theorem grown_below_own {w w' : World} {base : Nat} {e : TypeId} {s n : Nat} {v : Value} {xs : List Value} (hB : Below base w w') (h : w'.ownsRow base e s v n xs) {w2 : World} (hg : w'.grownBy w2 v.ownBlock) (hb : base ≤ w'.heap.size) : Below base w w2 := hB.grown hg hb (own_from h)
theorem grown_drewR {a b : World} {row : Option Nat} (h : a.grownBy b row) : a.grownBy b.drew row := ⟨h.os, h.tape, h.output, h.size, h.block⟩
theorem frozen_grown {w w' : World} {row : Option Nat} (hg : w.grownBy w' row) {g j : Nat} (h : w.frozen? ⟨g, j, none⟩ = false) (hlt : g < w.heap.size) (hne : some g ≠ row) : w'.frozen? ⟨g, j, none⟩ = false := by
  have := hg.block g hlt hne
  unfold World.frozen? at h ⊢
  simp only [this]
  exact h
theorem Dat.drew {w : World} {o : BOp} {X : Option Addr} {m c : Nat} (h : Dat w o X m c) : Dat w.drew o X m c := ⟨h.ns.drew, h.nil, h.le, h.cap, h.by8, h.fit⟩
/-- What is answered: a list of ops of the call's own. -/
def Told (w w' : World) (base : Nat) (e : Ending) (l : List BOp) : Prop := ∃ v n L, e = .returned v ∧ Ol w' base v n L ∧ L.map Prod.fst = l ∧ Below base w w'
section
variable (w : World)
end
end Blo
end Go.Proofs.Ytdcggnfplfgcnaa

set_option linter.all false
namespace Go.Proofs.Ytdcggnfplfgcnaa
open Go.RowKit
namespace Blo

theorem last_of {α : Type} {l : List α} {y : α} (h : l.getLast? = some y) : ∃ p, l = p ++ [y] := by
  rcases snoc_cases l with rfl | ⟨p, z, rfl⟩
  · cases h
  · simp at h; subst h; exact ⟨p, rfl⟩
/-- The last op of what is told shortly ends at the block ahead just if that one was touched. -/
theorem short_end {m : Nat → Option Nat} {k : Nat} {y : BOp} (h : (shortS m k).getLast? = some y) : (∃ z, prevOf m k = some z ∧ y.off + y.cnt = (k : Int) ∧ (if z = 0 then y.kind = 2 else y.kind = 1)) ∨ (prevOf m k = none ∧ y.off + y.cnt < (k : Int)) := by
  cases k with
  | zero => cases h
  | succ j =>
    cases hm : m j with
    | some z =>
      obtain ⟨p, y', e, h1, h2⟩ := (short_inv m (j + 1)).last j z rfl hm
      rw [e] at h
      simp at h
      subst h
      exact .inl ⟨z, hm, h1, h2⟩
    | none =>
      refine .inr ⟨hm, ?_⟩
      have e : shortS m (j + 1) = shortS m j := by
        show stepS (shortS m j) (prevOf m j) j (m j) = _
        rw [hm]; rfl
      rw [e] at h
      obtain ⟨p, hp⟩ := last_of h
      have := (short_inv m j).ok y (by rw [hp]; simp)
      have := this.high
      omega
theorem join_short {m : Nat → Option Nat} {k x : Nat} (hm : m k = some x) : joinS (shortS m k) (becomeO k x) = shortS m (k + 1) := by
  show _ = stepS (shortS m k) (prevOf m k) k (m k)
  rw [hm]
  cases hl : (shortS m k).getLast? with
  | none =>
    have h0 : shortS m k = [] := by simpa using hl
    rw [h0]
    cases x with
    | zero => rfl
    | succ x => rfl
  | some y =>
    obtain ⟨p, hp⟩ := last_of hl
    have hok := (short_inv m k).ok y (by rw [hp]; simp)
    have hfr := from_ok hok
    have hend := short_end hl
    have hj : joinS (shortS m k) (becomeO k x) = if oneB y (becomeO k x) then (shortS m k).dropLast ++ [mergeO y (becomeO k x)] else shortS m k ++ [becomeO k x] := by
      unfold joinS; rw [hl]
    rw [hj]
    cases x with
    | zero =>
      have hb : becomeO k 0 = ⟨2, k, 1, []⟩ := rfl
      rw [hb]
      unfold stepS
      rw [hl]
      simp only
      by_cases hc : prevOf m k = some 0
      · rcases hend with ⟨z, hz, h1, h2⟩ | ⟨h1, _⟩
        · rw [hc] at hz
          injection hz with hz
          subst hz
          rw [if_pos rfl] at h2
          have hd : y.data = [] := by
            rcases hok.form with q | q
            · omega
            · exact q.2
          have ho : oneB y ⟨2, k, 1, []⟩ = true := by
            unfold oneB
            rw [hfr]
            simp [h1, h2, hd]
          rw [if_pos ho, if_pos hc]
          simp [mergeO]
        · rw [hc] at h1; cases h1
      · have ho : ¬ oneB y ⟨2, k, 1, []⟩ = true := by
          unfold oneB
          rw [hfr]
          intro q
          simp only [Bool.and_eq_true, decide_eq_true_eq] at q
          rcases hend with ⟨z, hz, h1, h2⟩ | ⟨_, h1⟩
          · by_cases hz0 : z = 0
            · subst hz0; exact hc hz
            · rw [if_neg hz0] at h2; omega
          · omega
        rw [if_neg ho, if_neg hc]
    | succ x =>
      have hb : becomeO k (x + 1) = ⟨1, k, 0, [x + 1]⟩ := rfl
      rw [hb]
      unfold stepS
      rw [hl]
      simp only
      by_cases hc : ((prevOf m k).isSome && prevOf m k != some 0) = true ∧ y.data.length < 64
      · rcases hend with ⟨z, hz, h1, h2⟩ | ⟨h1, _⟩
        · have hz0 : z ≠ 0 := by intro e; subst e; rw [hz] at hc; simp at hc
          rw [if_neg hz0] at h2
          have ho : oneB y ⟨1, k, 0, [x + 1]⟩ = true := by
            unfold oneB
            rw [hfr]
            simp [h1, h2]
            omega
          rw [if_pos ho, if_pos hc]
          simp [mergeO]
        · rw [h1] at hc; simp at hc
      · have ho : ¬ oneB y ⟨1, k, 0, [x + 1]⟩ = true := by
          unfold oneB
          rw [hfr]
          intro q
          simp only [Bool.and_eq_true, decide_eq_true_eq, List.length_singleton] at q
          rcases hend with ⟨z, hz, h1, h2⟩ | ⟨_, h1⟩
          · have hz0 : z ≠ 0 := by intro e; subst e; rw [if_pos rfl] at h2; omega
            exact hc ⟨by rw [hz]; simp [hz0], by omega⟩
          · omega
        rw [if_neg ho, if_neg hc]
theorem short_length (m : Nat → Option Nat) : ∀ k, (shortS m k).length ≤ k
  | 0 => Nat.le_refl _
  | k + 1 => by
    have ih := short_length m k
    show (stepS (shortS m k) (prevOf m k) k (m k)).length ≤ k + 1
    cases hm : m k with
    | none => exact Nat.le_succ_of_le ih
    | some x =>
      have := join_short hm
      have e : stepS (shortS m k) (prevOf m k) k (some x) = joinS (shortS m k) (becomeO k x) := by rw [this]; show _ = stepS _ _ _ (m k); rw [hm]
      rw [e]
      unfold joinS
      split
      · split <;> simp <;> omega
      · simp; omega
theorem short_low {m : Nat → Option Nat} (h : ∀ i x, m i = some x → x < 18446744073709551616) : ∀ k, ∀ o ∈ shortS m k, ∀ z ∈ o.data, z < 18446744073709551616
  | 0, o, ho => by simp [shortS] at ho
  | k + 1, o, ho => by
    have ih := short_low h k
    cases hm : m k with
    | none =>
      have e : shortS m (k + 1) = shortS m k := by
        show stepS (shortS m k) (prevOf m k) k (m k) = _
        rw [hm]; rfl
      rw [e] at ho
      exact ih o ho
    | some x =>
      rw [← join_short hm] at ho
      have hb : ∀ z ∈ (becomeO k x).data, z < 18446744073709551616 := by
        unfold becomeO
        split
        · simp
        · simp only [List.mem_singleton]; rintro z rfl; exact h k z hm
      unfold joinS at ho
      split at ho
      · rename_i y hy
        obtain ⟨p, hp⟩ := last_of hy
        split at ho
        · rcases List.mem_append.1 ho with ho | ho
          · exact ih o ((List.dropLast_sublist _).subset ho)
          · rw [List.mem_singleton.1 ho]
            intro z hz
            rcases List.mem_append.1 hz with hz | hz
            · exact ih y (by rw [hp]; simp) z hz
            · exact hb z hz
        · rcases List.mem_append.1 ho with ho | ho
          · exact ih o ho
          · rw [List.mem_singleton.1 ho]; exact hb
      · rcases List.mem_append.1 ho with ho | ho
        · exact ih o ho
        · rw [List.mem_singleton.1 ho]; exact hb
theorem short_sml {m : Nat → Option Nat} (h : ∀ i x, m i = some x → x < 18446744073709551616) {k : Nat} (hk : k ≤ 1024) : ∀ o ∈ shortS m k, Sml o := fun o ho => sml_of (n := (k : Int)) ((short_inv m k).ok o ho) (by omega) (short_low h k o ho)
theorem become_ok (k x : Nat) : (becomeO k x).Ok ((k + 1 : Nat) : Int) := by
  unfold becomeO
  split
  · exact ⟨by simp, by simp [BOp.cnt], by simp [BOp.cnt], .inr ⟨rfl, rfl⟩⟩
  · exact ⟨by simp, by simp [BOp.cnt], by simp [BOp.cnt], .inl ⟨rfl, rfl, by simp⟩⟩
theorem become_low {k x : Nat} (h : x < 18446744073709551616) : ∀ z ∈ (becomeO k x).data, z < 18446744073709551616 := by
  unfold becomeO
  split
  · simp
  · simp only [List.mem_singleton]; rintro z rfl; exact h
/-- What has come of each block. -/
def tof (tc : Nat → Bool) (f : Int → Nat) (i : Nat) : Option Nat := if tc i then some (f (i : Int)) else none
theorem tof_low {tc : Nat → Bool} {f : Int → Nat} (h : low64 f) : ∀ i x, tof tc f i = some x → x < 18446744073709551616 := fun i x hx => by
  unfold tof at hx
  split at hx
  · injection hx with hx; rw [← hx]; exact h _
  · cases hx
/-- Boolean rows. -/
def tvs (n : Nat) (tc : Nat → Bool) : List Value := (List.range n).map fun i => Value.bool (tc i)
theorem tvs_at {n i : Nat} (tc : Nat → Bool) (h : i < n) : (tvs n tc)[i]? = some (.bool (tc i)) := by simp [tvs, h]
theorem tvs_length (n : Nat) (tc : Nat → Bool) : (tvs n tc).length = n := by simp [tvs]
section
variable (w : World)
end
end Blo
end Go.Proofs.Ytdcggnfplfgcnaa

set_option linter.all false
namespace Go.Proofs.Ytdcggnfplfgcnaa
open Go.RowKit
namespace Blo

theorem made_list (n : Nat) (u : Value) : (madeCells #[u] n).toList = List.replicate n u := by
  apply List.ext_getElem
  · simp [size_madeCells]
  · intro i h1 h2
    simp [madeCells, Nat.mod_one]
theorem own_blk {w : World} {g base n : Nat} {e : TypeId} {cs : Array Value} {xs : List Value} (h : Blk w g e cs) (hb : base ≤ g) (hn : n ≤ maxLen) (hs : cs.toList = xs) (hl : xs.length = n) : w.ownsRow base e 1 (.slice (some ⟨g, 0, none⟩) n n) n xs := by
  subst hs
  refine ⟨by omega, .inr ⟨g, n, cs, rfl, hb, h, Nat.le_refl _, hn, by simpa using hl, ?_⟩⟩
  rw [Nat.mul_one]
  exact List.take_of_length_le (by omega)
theorem vol_zero (n : Nat) : nvs (vol n fun _ => 0) = List.replicate n (.int .u64 0) := by
  rw [nvs_zeros]
  congr 1
  simp [vol, List.map_const']
theorem low_zero : low64 (fun _ => 0) := fun _ => Nat.zero_lt_succ _
theorem tvs_false (n : Nat) : tvs n (fun _ => false) = List.replicate n (.bool false) := by simp [tvs, List.map_const']
theorem info_bool : (Try.prog.info? 4).map (fun i => (i.zero, i.size, i.bytes)) = some (some (.bool false), 1, 1) := by kernel_rfl
theorem bool_info : ∃ i, Try.prog.info? 4 = some i ∧ i.zero = some (.bool false) ∧ i.size = 1 ∧ i.bytes = 1 := by
  obtain ⟨i, hi, he⟩ := Option.map_eq_some_iff.1 info_bool
  simp only [Prod.mk.injEq] at he
  exact ⟨i, hi, he.1, he.2.1, he.2.2⟩
theorem take_succ_of {α : Type} {l : List α} {k : Nat} {x : α} (h : l[k]? = some x) : l.take (k + 1) = l.take k ++ [x] := by
  rw [List.take_add_one, h]; rfl
/-- Touched by some ops. -/
def tch (l : List BOp) (i : Nat) : Bool := (told l (i : Int)).isSome
/-- Touched by the first j blocks of an op, too. -/
def tchTo (l : List BOp) (k j : Nat) (i : Nat) : Bool := tch l i || (decide (k ≤ i) && decide (i < k + j))
theorem tchTo_zero (l : List BOp) (k : Nat) : tchTo l k 0 = tch l := by
  funext i
  unfold tchTo
  have : (decide (k ≤ i) && decide (i < k + 0)) = false := by rw [Bool.eq_false_iff]; intro e; simp only [Bool.and_eq_true, decide_eq_true_eq] at e; omega
  rw [this, Bool.or_false]
theorem tchTo_all {l : List BOp} {x : BOp} {k q : Nat} (hk : x.off = (k : Int)) (hq : x.cnt = (q : Int)) : tchTo l k q = tch (l ++ [x]) := by
  funext i
  unfold tchTo tch
  rw [told_snoc]
  by_cases h : k ≤ i ∧ i < k + q
  · rw [if_pos (BOp.at_iff.2 ⟨by omega, by omega⟩)]
    simp [h.1, h.2]
  · rw [if_neg (fun e => by have := BOp.at_iff.1 e; omega)]
    have : (decide (k ≤ i) && decide (i < k + q)) = false := by
      rw [Bool.eq_false_iff]; intro e; simp only [Bool.and_eq_true, decide_eq_true_eq] at e; exact h e
    rw [this, Bool.or_false]
theorem tvs_set {n i : Nat} {tc tc' : Nat → Bool} (b : Bool) (h : tc' = fun j => if j = i then b else tc j) : (tvs n tc).set i (.bool b) = tvs n tc' := by
  subst h
  apply List.ext_getElem
  · simp [tvs]
  · intro j h1 h2
    by_cases e : i = j
    · subst e; simp [tvs]
    · rw [List.getElem_set_ne e]
      simp [tvs, Ne.symm e]
theorem tchTo_succ {l : List BOp} {k j : Nat} : tchTo l k (j + 1) = fun i => if i = k + j then true else tchTo l k j i := by
  funext i
  unfold tchTo
  by_cases e : i = k + j
  · rw [if_pos e]; simp; omega
  · rw [if_neg e]
    congr 1
    have : decide (i < k + (j + 1)) = decide (i < k + j) := by rw [decide_eq_decide]; omega
    rw [this]
def sqE (n : Int) (l : List BOp) : Int := if manyB n && l.all (·.right n) then 0 else 1
def sqL (n : Int) (l : List BOp) : List BOp := if manyB n && l.all (·.right n) then shortS (fun i => told l (i : Int)) n.toNat else []
theorem tof_told (l : List BOp) (f : Int → Nat) : tof (tch l) (l.foldl doF f) = fun (i : Nat) => told l (i : Int) := by
  funext i
  unfold tof tch
  rw [do_told]
  cases told l (i : Int) <;> rfl
/-- Ops that were answered. -/
def AnsO (w w' : World) (e : Ending) (er : Int) (l : List BOp) : Prop := ∃ A m c L, e = .returned (.tuple #[.slice A m c, .int .i64 er]) ∧ Ol w' w.heap.size (.slice A m c) m L ∧ L.map Prod.fst = l ∧ Below w.heap.size w w'
theorem own_at {w : World} {base : Nat} {e : TypeId} {g n cap : Nat} {xs : List Value} (h : w.ownsRow base e 1 (.slice (some ⟨g, 0, none⟩) n cap) n xs) {j : Nat} (hj : j < n) : w.cell? ⟨g, j, none⟩ = xs[j]? ∧ (w.cell? ⟨g, j, none⟩).isSome = true ∧ w.frozen? ⟨g, j, none⟩ = false := by
  obtain ⟨g', cap', cur, ev, hnc, -, -, hb, hcs, hx⟩ := own_cells h (by omega)
  injection ev with ev _ _
  injection ev with ev
  injection ev with ev
  subst ev
  have hc : cur[j]? = some cur[j] := Array.getElem?_eq_getElem (by omega)
  have h1 := hb.cell hc
  refine ⟨?_, by rw [h1]; rfl, hb.free _⟩
  rw [h1, ← hx, List.getElem?_take, if_pos hj, Array.getElem?_toList, hc]
section
variable (w : World)
end
end Blo
end Go.Proofs.Ytdcggnfplfgcnaa

set_option linter.all false
namespace Go.Proofs.Ytdcggnfplfgcnaa
open Go.RowKit
namespace Blo

/-- Are two volumes unlike at a block? -/
def unl (f g : Int → Nat) (i : Nat) : Bool := decide (f (i : Int) ≠ g (i : Int))
def unlTo (f g : Int → Nat) (j i : Nat) : Bool := decide (i < j) && unl f g i
theorem unlTo_zero (f g : Int → Nat) : unlTo f g 0 = fun _ => false := by funext i; simp [unlTo]
theorem unlTo_succ (f g : Int → Nat) (j : Nat) (b : Bool) (hb : unl f g j = b) : unlTo f g (j + 1) = fun i => if i = j then b else unlTo f g j i := by
  funext i
  unfold unlTo
  by_cases e : i = j
  · rw [if_pos e, e, hb]; simp
  · rw [if_neg e]
    have : decide (i < j + 1) = decide (i < j) := by rw [decide_eq_decide]; omega
    rw [this]
theorem tvs_congr {n : Nat} {a b : Nat → Bool} (h : ∀ i, i < n → a i = b i) : tvs n a = tvs n b := by
  unfold tvs
  exact List.map_congr_left fun i hi => by rw [h i (List.mem_range.1 hi)]
def dfE (a b : List Nat) : Int := if manyB a.length && manyB b.length then (if a.length = b.length then 0 else 1) else 6
def dfM (a b : List Nat) : Nat → Option Nat := tof (unl (fun_ a) (fun_ b)) (fun_ b)
def dfL (a b : List Nat) : List BOp := if manyB a.length && manyB b.length then (if a.length = b.length then shortS (dfM a b) b.length else []) else []
theorem ns_at {w : World} {A : Option Addr} {n : Nat} {v : List Nat} (h : Ns w A n v) {i : Nat} (hi : i < n) : ∃ b o, A = some ⟨b, o, none⟩ ∧ w.cell? ⟨b, o + i, none⟩ = some (.int .u64 ((fun_ v (i : Int) : Nat) : Int)) := by
  obtain ⟨b, o, e, hx, hc, _⟩ := h.at_ hi
  refine ⟨b, o, e, ?_⟩
  rw [hc]
  unfold fun_ List.getD
  rw [Int.toNat_natCast, List.getElem?_eq_getElem hx]
  rfl
section
variable (w : World)
end
end Blo
end Go.Proofs.Ytdcggnfplfgcnaa
