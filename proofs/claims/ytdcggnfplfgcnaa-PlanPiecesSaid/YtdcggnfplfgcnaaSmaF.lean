/- XSmaC, XSmaD, XSmaE, XSmaF. -/
import Derived.Test.YtdcggnfplfgcnaaSmaB
import Derived.Test.YtdcggnfplfgcnaaZeros
set_option linter.all false
namespace Go.Proofs.Ytdcggnfplfgcnaa
open Go.RowKit
namespace Sma

theorem pos_yes {f : Pc → Bool} {k : Nat} {p : Pc} {l : List Pc} {r : Option Nat} (h : pos f k (p :: l) = r) (hp : f p = true) : r = some k := by rw [← h]; simp [pos, hp]
theorem pos_next {f : Pc → Bool} {k : Nat} {p : Pc} {l : List Pc} {r : Option Nat} (h : pos f k (p :: l) = r) (hp : f p = false) : pos f (k + 1) l = r := by rw [← h]; simp [pos, hp]
section
variable (w : World)
theorem posI_none : posI none = -1 := rfl
theorem find_posI {m : Mp} {a : Int} (hr : m.right = true) {o : Option Nat} (h : pos (inB a) 0 m.ps = o) : findA m a = findO o := by
  subst h
  unfold findA
  rw [if_neg (by simp [hr])]
end
end Sma
end Go.Proofs.Ytdcggnfplfgcnaa

set_option linter.all false
namespace Go.Proofs.Ytdcggnfplfgcnaa
open Go.RowKit
namespace Sma

theorem info_pc : (Try.prog.info? 72).map (fun i => (i.zero, i.size, i.bytes)) = some (some (.agg #[.int .i64 0, .int .i64 0, .int .i64 0]), 3, 24) := by kernel_rfl
theorem pc_info : ∃ i, Try.prog.info? 72 = some i ∧ i.zero = some (.agg #[.int .i64 0, .int .i64 0, .int .i64 0]) ∧ i.size = 3 ∧ i.bytes = 24 := by
  obtain ⟨i, hi, he⟩ := Option.map_eq_some_iff.1 info_pc
  simp only [Prod.mk.injEq] at he
  exact ⟨i, hi, he.1, he.2.1, he.2.2⟩
/-- A row of the call's own, in new memory from base on, that reads as l. -/
abbrev Po (w : World) (base : Nat) (v : Value) (n : Nat) (l : List Pc) : Prop := w.ownsRow base 72 3 v n (pvs l)
theorem po_len {w : World} {base : Nat} {v : Value} {n : Nat} {l : List Pc} (h : Po w base v n l) : n = l.length := by have := h.1; rw [pvs_len] at this; omega
theorem po_ps {w : World} {base : Nat} {A : Option Addr} {n c : Nat} {l : List Pc} (h : Po w base (.slice A n c) n l) (hf : ∀ p ∈ l, Fit p) : Ps w A n l := ⟨rd_own h, hf⟩
theorem po_nil (w : World) (base : Nat) : Po w base (.slice none 0 0) 0 [] := own_nil w base _ 3
theorem po_of {w : World} {base : Nat} {v : Value} {n : Nat} {xs : List Value} {l : List Pc} (h : w.ownsRow base 72 3 v n xs) (e : xs = pvs l) : Po w base v n l := by subst e; exact h
theorem wpList_grow_nil {P : Program} (w : World) {ops : Array Oper} {rest : List Oper} {o : Oper} {a : Act} {Q : Exit → Act → World → Prop} (hgd : o.guard = none) (s x : Operand) (t tn : TypeId)
    (ho : o.op = .call { callee := .builtin .append, args := #[s, x], argTypes := #[t, tn] })
    (e : TypeId) (i : TypeInfo) (z : Value) (kq kn : IntKind) (ht : P.underlying t = some (.slice e)) (htn : P.underlying tn = some (.int kn)) (hi : P.info? e = some i) (hz : i.zero = some z)
    (size : Nat) (hsize : i.size = size) (hsz : 0 < size) (hzs : z.cells.size = size) (hs : a.eval s = .slice none 0 0) (K : Int) (k : Nat) (hx : a.eval x = .int kq K) (hK : K = (k : Int)) (hk : 0 < k) (h63 : k ≤ 9223372036854775807) (h48 : k * i.bytes ≤ 281474976710656)
    (h : ∀ cap w', w'.ownsRow w.heap.size e size (.slice (some ⟨w.heap.size, 0, none⟩) 0 cap) 0 [] → k ≤ cap → cap ≤ maxLen → Below w.heap.size w w' → wpList P ops Q rest (a.put o.dst (.slice (some ⟨w.heap.size, 0, none⟩) k cap)) w') : wpList P ops Q (o :: rest) a w := by
  subst hK
  have hr := Lib.run_append_nil_zeros (P := P) w t tn o.type e i z kq kn ht htn hi hz k hk (by omega) (by omega) h48
  have hge := grownCap_ge w k 0 e
  have hcm := grownCap_le_maxLen w k 0 e (by unfold maxLen; omega)
  refine Lib.wpList_append_run w hgd s x t tn ho _ _ hs hx _ _ hr (h _ _ ⟨by simp, .inr ⟨w.heap.size, _, _, rfl, Nat.le_refl _, heap_alloc_new w.drew _, Nat.zero_le _, hcm, ?_, by simp⟩⟩ hge hcm ?_)
  · simp only [Array.size_append, Builtin.zeroCells, Array.size_map, Array.size_range, hzs, ← Nat.add_mul]
    congr 1
    omega
  · have hb := (Below.refl w.heap.size w.drew).alloc (Nat.le_refl _) (.cells (Builtin.zeroCells z.cells k ++ Builtin.zeroCells z.cells (grownCap w k 0 e - k)) e)
    exact ⟨hb.os, hb.tape, hb.output, hb.size, hb.block⟩
section
variable (w : World)
/-- The slice value '.slice A n _' reads as slices of pieces. -/
def Pss (w : World) (A : Option Addr) (n : Nat) (ls : List (List Pc)) : Prop :=
  n = ls.length ∧ ∀ (i : Nat) (h : i < ls.length), ∃ b o A' n' c', A = some ⟨b, o, none⟩ ∧ w.cell? ⟨b, o + i, none⟩ = some (.slice A' n' c') ∧ n' ≤ c' ∧ Ps w A' n' ls[i]
theorem Pss.below {w w' : World} {A : Option Addr} {n : Nat} {ls : List (List Pc)} (h : Pss w A n ls) (hb : Below w.heap.size w w') : Pss w' A n ls :=
  ⟨h.1, fun i hi => by
    obtain ⟨b, o, A', n', c', e, hc, h1, h2⟩ := h.2 i hi
    exact ⟨b, o, A', n', c', e, (hb.cell (cell_lt hc)).trans hc, h1, h2.below hb⟩⟩
def lens (l : List (List Pc)) : Nat := (l.map List.length).sum
theorem lens_snoc {l : List (List Pc)} {k : Nat} (h : k < l.length) : lens (l.take (k + 1)) = lens (l.take k) + l[k].length := by
  unfold lens
  rw [List.take_succ_eq_append_getElem h, List.map_append, List.sum_append, List.map_singleton, List.sum_singleton]
theorem lens_take (l : List (List Pc)) (k : Nat) : lens (l.take k) ≤ lens l := by
  have : lens l = lens (l.take k) + lens (l.drop k) := by
    unfold lens
    rw [← List.sum_append, ← List.map_append, List.take_append_drop]
  omega
end
/-- What is answered: a map in new memory and an error's number. -/
structure Got (w : World) (B : Nat) (A : Option Addr) (k c : Nat) (m : Mp) : Prop where
  own : Po w B (.slice A k c) k m.ps
  mr : Mr w m A k c
theorem Got.keep {w w' : World} {B : Nat} {A : Option Addr} {k c : Nat} {m : Mp} (h : Got w B A k c m) (hb : Below w.heap.size w w') : Got w' B A k c m := ⟨own_keep h.own hb, h.mr.below hb⟩
theorem Got.mono {w : World} {B B' : Nat} {A : Option Addr} {k c : Nat} {m : Mp} (h : Got w B A k c m) (hB : B' ≤ B) : Got w B' A k c m :=
  ⟨⟨h.own.1, h.own.2.imp id fun ⟨g, cap, cur, e, hg, r⟩ => ⟨g, cap, cur, e, Nat.le_trans hB hg, r⟩⟩, h.mr⟩
def Ans (w w' : World) (e : Ending) (r : Mp × Int) : Prop := ∃ A k c, e = .returned (.tuple #[mv r.1 A k c, .int .i64 r.2]) ∧ Got w' w.heap.size A k c r.1 ∧ Below w.heap.size w w'
theorem got_zero (w : World) (B : Nat) : Got w B none 0 0 zM := ⟨po_nil w B, ⟨by unfold I64 zM; simp, by unfold I64 zM; simp, Ps.nil, Nat.le_refl _, Nat.zero_le _, fun _ => rfl⟩⟩
theorem below_undrew {B : Nat} {a w : World} (h : Below B a.drew w) : Below B a w := ⟨h.os, h.tape, h.output, h.size, h.block⟩
theorem blk_set3 {w : World} {b : Nat} {t : TypeId} {x y z : Value} (h : Blk w b t #[x, y, z]) (u0 u1 u2 : Value) : Blk (((w.setCell ⟨b, 0, none⟩ u0).setCell ⟨b, 1, none⟩ u1).setCell ⟨b, 2, none⟩ u2) b t #[u0, u1, u2] := by
  simpa using ((h.setCell 0 u0).setCell 1 u1).setCell 2 u2
theorem grown3 (w : World) (b : Nat) (u0 u1 u2 : Value) : w.grownBy (((w.setCell ⟨b, 0, none⟩ u0).setCell ⟨b, 1, none⟩ u1).setCell ⟨b, 2, none⟩ u2) (some b) :=
  ((grown_setCell w ⟨b, 0, none⟩ u0).trans (grown_setCell _ ⟨b, 1, none⟩ u1)).trans (grown_setCell _ ⟨b, 2, none⟩ u2)
theorem below_set3 {B : Nat} {a w : World} (h : Below B a w) {b : Nat} (hb : B ≤ b) (hB : B ≤ a.heap.size) (u0 u1 u2 : Value) : Below B a (((w.setCell ⟨b, 0, none⟩ u0).setCell ⟨b, 1, none⟩ u1).setCell ⟨b, 2, none⟩ u2) :=
  h.grown (grown3 w b u0 u1 u2) (Nat.le_trans hB h.size) (fun j e => by injection e with e; omega)
theorem results_m {fn : Func} {W : World} {q k j : Nat} {x y z : Value} {tmps : Array Value} (h : fn.results = #[.cell k 33, .tmp j]) (h2 : tmps.getD k undef = .pointer (some ⟨q, 0, none⟩)) (hb : Blk W q 33 #[x, y, z]) :
    (results fn tmps).run Try.prog W = .ok (.tuple #[.agg #[x, y, z], tmps.getD j undef]) W := by
  have d0 := hb.cell (j := 0) rfl
  have d1 := hb.cell (j := 1) rfl
  have d2 := hb.cell (j := 2) rfl
  have h2' : tmps[k]?.getD undef = .pointer (some ⟨q, 0, none⟩) := by simpa using h2
  simp [results, h, h2', go_sem, d0, d1, d2]
theorem results_r {fn : Func} {W : World} {q k j : Nat} {x y z : Value} {tmps : Array Value} (h : fn.results = #[.cell k 24, .tmp j]) (h2 : tmps.getD k undef = .pointer (some ⟨q, 0, none⟩)) (hb : Blk W q 24 #[x, y, z]) :
    (results fn tmps).run Try.prog W = .ok (.tuple #[.agg #[x, y, z], tmps.getD j undef]) W := by
  have d0 := hb.cell (j := 0) rfl
  have d1 := hb.cell (j := 1) rfl
  have d2 := hb.cell (j := 2) rfl
  have h2' : tmps[k]?.getD undef = .pointer (some ⟨q, 0, none⟩) := by simpa using h2
  simp [results, h, h2', go_sem, d0, d1, d2]
theorem results_m1 {fn : Func} {W : World} {q k : Nat} {x y z : Value} {tmps : Array Value} (h : fn.results = #[.cell k 33]) (h2 : tmps.getD k undef = .pointer (some ⟨q, 0, none⟩)) (hb : Blk W q 33 #[x, y, z]) :
    (results fn tmps).run Try.prog W = .ok (.agg #[x, y, z]) W := by
  have d0 := hb.cell (j := 0) rfl
  have d1 := hb.cell (j := 1) rfl
  have d2 := hb.cell (j := 2) rfl
  have h2' : tmps[k]?.getD undef = .pointer (some ⟨q, 0, none⟩) := by simpa using h2
  simp [results, h, h2', go_sem, d0, d1, d2]
theorem results_r1 {fn : Func} {W : World} {q k : Nat} {x y z : Value} {tmps : Array Value} (h : fn.results = #[.cell k 24]) (h2 : tmps.getD k undef = .pointer (some ⟨q, 0, none⟩)) (hb : Blk W q 24 #[x, y, z]) :
    (results fn tmps).run Try.prog W = .ok (.agg #[x, y, z]) W := by
  have d0 := hb.cell (j := 0) rfl
  have d1 := hb.cell (j := 1) rfl
  have d2 := hb.cell (j := 2) rfl
  have h2' : tmps[k]?.getD undef = .pointer (some ⟨q, 0, none⟩) := by simpa using h2
  simp [results, h, h2', go_sem, d0, d1, d2]
end Sma
end Go.Proofs.Ytdcggnfplfgcnaa

set_option linter.all false
namespace Go.Proofs.Ytdcggnfplfgcnaa
open Go.RowKit
namespace Sma

abbrev mo (m : Mp) (A : Option Addr) (k c : Nat) : Obj := .cells #[.int .i64 m.v, .int .i64 m.n, .slice A k c] 33
abbrev zo : Obj := .cells #[.int .i64 0, .int .i64 0, .slice none 0 0] 33
theorem fit_take {l : List Pc} (h : ∀ p ∈ l, Fit p) (i : Nat) : ∀ p ∈ l.take i, Fit p := fun p hp => h p (List.mem_of_mem_take hp)
theorem fit_drop {l : List Pc} (h : ∀ p ∈ l, Fit p) (i : Nat) : ∀ p ∈ l.drop i, Fit p := fun p hp => h p (List.mem_of_mem_drop hp)
theorem Ps.take {w : World} {A : Option Addr} {n : Nat} {l : List Pc} (h : Ps w A n l) {i : Nat} (hi : i ≤ n) : Ps w A i (l.take i) := ⟨by have := h.rd.take hi; rwa [pvs_take] at this, fit_take h.fit i⟩
theorem Ps.drop {w : World} {A : Option Addr} {n c : Nat} {l : List Pc} (h : Ps w A n l) {i : Nat} (hi : i ≤ n) (hc : n ≤ c) : Ps w (if c = i then A else A.map (·.add (i * 3))) (n - i) (l.drop i) := ⟨by have := h.rd.drop hi hc; rwa [pvs_drop] at this, fit_drop h.fit i⟩
theorem pss3 {w : World} {A1 A2 A3 : Option Addr} {n1 n2 n3 c1 c2 c3 g : Nat} {l1 l2 l3 : List Pc} (h1 : Ps w A1 n1 l1) (h2 : Ps w A2 n2 l2) (h3 : Ps w A3 n3 l3) (k1 : n1 ≤ c1) (k2 : n2 ≤ c2) (k3 : n3 ≤ c3) (hg : g = w.heap.size) :
    Pss (w.alloc (.cells #[.slice A1 n1 c1, .slice A2 n2 c2, .slice A3 n3 c3] 22)).drew (some ⟨g, 0, none⟩) 3 [l1, l2, l3] := by
  have hb := Blk.new w 22 #[.slice A1 n1 c1, .slice A2 n2 c2, .slice A3 n3 c3] hg
  refine ⟨rfl, fun i hi => ?_⟩
  match i, hi with
  | 0, _ => exact ⟨g, 0, A1, n1, c1, rfl, hb.cell (j := 0) rfl, k1, (h1.alloc _).drew⟩
  | 1, _ => exact ⟨g, 0, A2, n2, c2, rfl, hb.cell (j := 1) rfl, k2, (h2.alloc _).drew⟩
  | 2, _ => exact ⟨g, 0, A3, n3, c3, rfl, hb.cell (j := 2) rfl, k3, (h3.alloc _).drew⟩
theorem next_end {w w1 w3 : World} {m : Mp} {lo : List Pc} {i s n g : Nat} {A3 : Option Addr} {c3 q : Nat} (hfit : ∀ p ∈ m.ps, Fit p) (hlo : ∀ p ∈ lo, Fit p) (HR : nextA m (m.ps.take i ++ (lo ++ m.ps.drop s)) = (⟨m.v + 1, m.n, m.ps.take i ++ (lo ++ m.ps.drop s)⟩, 0)) (hsz : w.heap.size ≤ w1.heap.size)
    (hown : Po w3 g (.slice A3 n c3) n (m.ps.take i ++ (lo ++ m.ps.drop s))) (hc : n ≤ c3) (hcm : c3 ≤ maxLen) (hB : Below w.heap.size w w3) (hv1 : 1 ≤ m.v) (hv2 : m.v < 1099511627776) (hn : -9223372036854775808 ≤ m.n ∧ m.n ≤ 9223372036854775807) (hg : w.heap.size ≤ g) (hq : w.heap.size ≤ q) (hqg : q < g) {u0 u1 u2 : Value} :
    Ans w (((w3.setCell ⟨q, 0, none⟩ u0).setCell ⟨q, 1, none⟩ u1).setCell ⟨q, 2, none⟩ u2) (.returned (.tuple #[.agg #[.int .i64 (m.v + 1), .int .i64 m.n, .slice A3 n c3], .int .i64 0])) (nextA m (m.ps.take i ++ (lo ++ m.ps.drop s))) := by
  rw [HR]
  have hgr := grown3 w3 q u0 u1 u2
  have hlow : ∀ k, (Value.slice A3 n c3).ownBlock = some k → some k ≠ some q := fun k hk e => by
    injection e with e
    have := (hown.lt k hk).1
    omega
  have hown' : Po (((w3.setCell ⟨q, 0, none⟩ u0).setCell ⟨q, 1, none⟩ u1).setCell ⟨q, 2, none⟩ u2) g (.slice A3 n c3) n (m.ps.take i ++ (lo ++ m.ps.drop s)) := by
    refine ⟨hown.1, ?_⟩
    rcases hown.2 with h2 | ⟨g', cap, cur, e, hb, hh, r⟩
    · exact .inl h2
    · have hne : some g' ≠ some q := hlow g' (by rw [e]; rfl)
      exact .inr ⟨g', cap, cur, e, hb, (hgr.block g' (hown.lt g' (by rw [e]; rfl)).2 hne).trans hh, r⟩
  have hfa : ∀ p ∈ m.ps.take i ++ (lo ++ m.ps.drop s), Fit p := fun p hp => by
    rcases List.mem_append.1 hp with hp | hp
    · exact fit_take hfit i p hp
    · rcases List.mem_append.1 hp with hp | hp
      · exact hlo p hp
      · exact fit_drop hfit s p hp
  obtain ⟨A', c', e, _, _, hnil⟩ := own_form hown
  injection e with e1 e2 e3
  subst e1 e3
  unfold maxLen at hcm
  exact ⟨A3, n, c3, rfl, Got.mono ⟨hown', ⟨by unfold I64; simp only; omega, by unfold I64; exact hn, po_ps hown' hfa, hc, hcm, fun h => (hnil h).2⟩⟩ hg, below_set3 hB hq (Nat.le_refl _) _ _ _⟩
section
variable (w : World)
end
end Sma
end Go.Proofs.Ytdcggnfplfgcnaa

set_option linter.all false
namespace Go.Proofs.Ytdcggnfplfgcnaa
open Go.RowKit
namespace Sma

theorem cells3 {w : World} {b : Nat} {t : TypeId} {x y z : Value} (h : Blk w b t #[x, y, z]) : w.cell? ⟨b, 0, none⟩ = some x ∧ w.cell? ⟨b, 1, none⟩ = some y ∧ w.cell? ⟨b, 2, none⟩ = some z ∧ w.frozen? ⟨b, 0, none⟩ = false ∧ w.frozen? ⟨b, 1, none⟩ = false ∧ w.frozen? ⟨b, 2, none⟩ = false :=
  ⟨h.cell rfl, h.cell rfl, h.cell rfl, h.free 0, h.free 1, h.free 2⟩
theorem Got.set3 {w : World} {g q : Nat} {A : Option Addr} {k c : Nat} {m : Mp} (h : Got w g A k c m) (hq : q < g) (u0 u1 u2 : Value) : Got (((w.setCell ⟨q, 0, none⟩ u0).setCell ⟨q, 1, none⟩ u1).setCell ⟨q, 2, none⟩ u2) g A k c m := by
  have hgr := grown3 w q u0 u1 u2
  have hown' : Po (((w.setCell ⟨q, 0, none⟩ u0).setCell ⟨q, 1, none⟩ u1).setCell ⟨q, 2, none⟩ u2) g (.slice A k c) k m.ps := by
    refine ⟨h.own.1, ?_⟩
    rcases h.own.2 with h2 | ⟨g', cap, cur, e, hb, hh, r⟩
    · exact .inl h2
    · have hne : some g' ≠ some q := fun e => by injection e with e; omega
      exact .inr ⟨g', cap, cur, e, hb, (hgr.block g' (h.own.lt g' (by rw [e]; rfl)).2 hne).trans hh, r⟩
  exact ⟨hown', ⟨h.mr.v, h.mr.n, po_ps hown' h.mr.ps.fit, h.mr.le, h.mr.cap, h.mr.nil⟩⟩
/-- An answer that was stored where the function's own is. -/
theorem ans_set {w w3 : World} {g q : Nat} {A : Option Addr} {k c : Nat} {r : Mp × Int} (h : Got w3 g A k c r.1) (hq : q < g) (hq0 : w.heap.size ≤ q) (hB : Below w.heap.size w w3) (u0 u1 u2 : Value) : Ans w (((w3.setCell ⟨q, 0, none⟩ u0).setCell ⟨q, 1, none⟩ u1).setCell ⟨q, 2, none⟩ u2) (.returned (.tuple #[mv r.1 A k c, .int .i64 r.2])) r :=
  ⟨A, k, c, rfl, (h.set3 hq u0 u1 u2).mono (by omega), below_set3 hB hq0 (Nat.le_refl _) _ _ _⟩
theorem ans_zero {w w' : World} {er : Int} {r : Mp × Int} (hr : r = (zM, er)) (hb : Below w.heap.size w w') : Ans w w' (.returned (.tuple #[.agg #[.int .i64 0, .int .i64 0, .slice none 0 0], .int .i64 er])) r := by
  subst hr
  exact ⟨none, 0, 0, rfl, got_zero _ _, hb⟩
/-- The piece of a block, read. -/
theorem at_cells {w : World} {m : Mp} {A : Option Addr} {k c : Nat} (h : Mr w m A k c) {i : Nat} {p : Pc} (hp : m.ps[i]? = some p) : ∃ b o, A = some ⟨b, o, none⟩ ∧ i < k ∧ Fit p ∧ w.cell? ⟨b, o + i * 3, none⟩ = some (.int .i64 p.fr) ∧ w.cell? ⟨b, o + i * 3 + 1, none⟩ = some (.int .i64 p.en) ∧ w.cell? ⟨b, o + i * 3 + 2, none⟩ = some (.int .i64 p.nd) := by
  have hi : i < k := by have := h.len; have := (List.getElem?_eq_some_iff.1 hp).1; omega
  obtain ⟨b, o, e, p', hp', fp, c0, c1, c2⟩ := h.ps.at_ hi
  rw [hp] at hp'
  injection hp' with hp'
  subst hp'
  exact ⟨b, o, e, hi, fp, c0, c1, c2⟩
theorem ps_two {w : World} {p q : Pc} (fp : Fit p) (fq : Fit q) {g : Nat} (hg : g = w.heap.size) : Ps (w.alloc (.cells #[.int .i64 p.fr, .int .i64 p.en, .int .i64 p.nd, .int .i64 q.fr, .int .i64 q.en, .int .i64 q.nd] 72)) (some ⟨g, 0, none⟩) 2 [p, q] := by
  subst hg
  refine ⟨Rd.new w #[.int .i64 p.fr, .int .i64 p.en, .int .i64 p.nd, .int .i64 q.fr, .int .i64 q.en, .int .i64 q.nd] 72 (0, 0) rfl, fun x hx => ?_⟩
  simp only [List.mem_cons, List.not_mem_nil, or_false] at hx
  rcases hx with rfl | rfl
  · exact fp
  · exact fq
theorem ps_one {w : World} {p : Pc} (fp : Fit p) {g : Nat} (hg : g = w.heap.size) : Ps (w.alloc (.cells #[.int .i64 p.fr, .int .i64 p.en, .int .i64 p.nd] 72)) (some ⟨g, 0, none⟩) 1 [p] := by
  subst hg
  refine ⟨Rd.new w #[.int .i64 p.fr, .int .i64 p.en, .int .i64 p.nd] 72 (0, 0) rfl, fun x hx => ?_⟩
  simp only [List.mem_cons, List.not_mem_nil, or_false] at hx
  subst hx
  exact fp
section
variable (w : World)
end
end Sma
end Go.Proofs.Ytdcggnfplfgcnaa
