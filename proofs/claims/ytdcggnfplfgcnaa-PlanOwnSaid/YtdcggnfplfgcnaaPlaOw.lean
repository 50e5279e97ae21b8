/- Proves PlanOwn of layer 14 (plan), for every input, with no condition: maps and ops are not turned, and what was answered may be written over. -/
import Derived.Test.YtdcggnfplfgcnaaPlaW
import Derived.Deep.RegionHeld3
set_option linter.all false
namespace Go.Proofs.Ytdcggnfplfgcnaa
open Go.ChangeShapes Go.WideShapes Go.ChangeAt Go.RowKit
namespace Pla
open Blo (I64 Dat Sml FitB Opl GotN AnsN OpV opShp toOp)
open Sma (Pc Mp Mr mv)

/-- A row of numbers in new memory from B on, whatever they are: it may be written. -/
def MineN (w : World) (B : Nat) (A : Option Addr) (n : Nat) : Prop := n = 0 ∨ ∃ g cur, A = some ⟨g, 0, none⟩ ∧ B ≤ g ∧ Blk w g 64 cur ∧ n ≤ cur.size ∧ ∀ j, j < n → ∃ z, cur[j]? = some (.int .u64 z)
theorem MineN.keep {w w' : World} {B : Nat} {A : Option Addr} {n : Nat} (h : MineN w B A n) (hb : Below w.heap.size w w') : MineN w' B A n := by
  rcases h with h | ⟨g, cur, h1, h2, h3, h4, h5⟩
  · exact .inl h
  · exact .inr ⟨g, cur, h1, h2, h3.keep hb, h4, h5⟩
theorem MineN.mono {w : World} {B B' : Nat} {A : Option Addr} {n : Nat} (h : MineN w B A n) (hb : B' ≤ B) : MineN w B' A n := by
  rcases h with h | ⟨g, cur, h1, h2, h3, h4, h5⟩
  · exact .inl h
  · exact .inr ⟨g, cur, h1, by omega, h3, h4, h5⟩
theorem MineN.set {w : World} {B : Nat} {A : Option Addr} {n : Nat} (h : MineN w B A n) (g o : Nat) (z : Int) : MineN (w.setCell ⟨g, o, none⟩ (.int .u64 z)) B A n := by
  rcases h with h | ⟨q, cur, h1, h2, h3, h4, h5⟩
  · exact .inl h
  · by_cases e : q = g
    · subst e
      refine .inr ⟨q, cur.setIfInBounds o (.int .u64 z), h1, h2, h3.setCell o _, by simpa using h4, fun j hj => ?_⟩
      by_cases ej : o = j
      · subst ej
        exact ⟨z, by rw [Array.getElem?_setIfInBounds, if_pos rfl, if_pos (by omega)]⟩
      · obtain ⟨y, hy⟩ := h5 j hj
        exact ⟨y, by rw [Array.getElem?_setIfInBounds, if_neg ej]; exact hy⟩
    · exact .inr ⟨q, cur, h1, h2, h3.grown (grown_setCell w ⟨g, o, none⟩ (.int .u64 z)) (fun e' => by simp only [Option.some.injEq] at e'; exact e e'), h4, h5⟩
theorem mine_own {w : World} {B : Nat} {A : Option Addr} {n c : Nat} {l : List Nat} (h : w.ownsRow B 64 1 (.slice A n c) n (nvs l)) : MineN w B A n := by
  by_cases h0 : n = 0
  · exact .inl h0
  · obtain ⟨g, cap, cur, e, hnc, _, hbg, hblk, hcs, hx⟩ := own_cells h (by omega)
    injection e with e _ _
    refine .inr ⟨g, cur, e, hbg, hblk, by omega, fun j hj => ?_⟩
    have hl : n = l.length := by have := h.1; rw [nvs_length] at this; omega
    refine ⟨((l[j]'(by omega) : Nat) : Int), ?_⟩
    have h1 : (cur.toList.take n)[j]? = (nvs l)[j]? := by rw [hx]
    rw [List.getElem?_take, if_pos hj, Array.getElem?_toList] at h1
    rw [h1]
    simp [nvs, List.getElem?_eq_getElem (show j < l.length by omega)]
/-- A list of parts whose numbers may be written. -/
def ListP (w : World) (B : Nat) (A : Option Addr) (m : Nat) : Prop := m = 0 ∨ ∃ g cur, A = some ⟨g, 0, none⟩ ∧ Blk w g 67 cur ∧ ∀ i, i < m → ∃ X n c, cur[i * 6 + 5]? = some (.slice X n c) ∧ n ≤ 9223372036854775807 ∧ MineN w B X n
theorem ListP.keep {w w' : World} {B : Nat} {A : Option Addr} {m : Nat} (h : ListP w B A m) (hb : Below w.heap.size w w') : ListP w' B A m := by
  rcases h with h | ⟨g, cur, h1, h2, h3⟩
  · exact .inl h
  · exact .inr ⟨g, cur, h1, h2.keep hb, fun i hi => by
      obtain ⟨X, n, c, k1, k2, k3⟩ := h3 i hi
      exact ⟨X, n, c, k1, k2, k3.keep hb⟩⟩
theorem blk_ne {w : World} {g g' : Nat} {t t' : TypeId} {cs cs' : Array Value} (h : Blk w g t cs) (h' : Blk w g' t' cs') (ht : t ≠ t') : g ≠ g' := by
  intro e
  subst e
  have h1 : w.heap[g]? = some (.cells cs t (0, 0)) := h
  have h2 : w.heap[g]? = some (.cells cs' t' (0, 0)) := h'
  rw [h1] at h2
  simp only [Option.some.injEq, Obj.cells.injEq] at h2
  exact ht h2.2.1
theorem ListP.set {w : World} {B : Nat} {A : Option Addr} {m : Nat} (h : ListP w B A m) {g : Nat} {cs : Array Value} (hg : Blk w g 64 cs) (o : Nat) (z : Int) : ListP (w.setCell ⟨g, o, none⟩ (.int .u64 z)) B A m := by
  rcases h with h | ⟨q, cur, h1, h2, h3⟩
  · exact .inl h
  · refine .inr ⟨q, cur, h1, h2.grown (grown_setCell w ⟨g, o, none⟩ (.int .u64 z)) (fun e' => ?_), fun i hi => ?_⟩
    · simp only [Option.some.injEq] at e'
      exact blk_ne h2 hg (by decide) e'
    · obtain ⟨X, n, c, k1, k2, k3⟩ := h3 i hi
      exact ⟨X, n, c, k1, k2, k3.set g o z⟩
theorem list_got {w : World} {B : Nat} {A : Option Addr} {m c : Nat} {L : List (Pt × Value)} (h : GotP w B 67 A m c L) : ListP w B A m := by
  by_cases h0 : m = 0
  · exact .inl h0
  · have hlen := h.pl.len
    rcases h.pl.row.2 with ⟨_, q⟩ | ⟨g, cap, cur, e, hg, hh, hnc, hcm, hcs, hx⟩
    · omega
    · injection e with e _ _
      refine .inr ⟨g, cur, e, hh, fun i hi => ?_⟩
      have hi' : i < L.length := by omega
      have hd := h.pl.data L[i] (List.getElem_mem hi')
      have hsh := (h.sml L[i] (List.getElem_mem hi')).op.short
      obtain ⟨X, c', e2, h1, h2, h3⟩ := own_form hd
      refine ⟨X, L[i].1.op.data.length, c', ?_, by omega, ?_⟩
      · have h4 : (pvs L)[i * 6 + 5]? = (pv L[i].1 L[i].2)[5]? := pvs_at hi' (by omega)
        rw [← hx, List.getElem?_take] at h4
        split at h4
        · rw [Array.getElem?_toList] at h4
          rw [h4, ← e2]
          rfl
        · cases h4
      · rw [e2] at hd
        exact mine_own hd
/-- What stands while what was answered is written over. -/
structure OvP (w wr : World) (gb : Nat) (x : BOp) (Xd : Option Addr) (dn xd : Nat) (Al : Option Addr) (ml : Nat) : Prop where
  below : Below w.heap.size w wr
  box : Blk wr gb 27 #[.int .i64 x.kind, .int .i64 x.off, .int .i64 x.len, .slice Xd dn xd]
  r : MineN wr w.heap.size Xd dn
  l : ListP wr w.heap.size Al ml
theorem OvP.set {w wr : World} {gb : Nat} {x : BOp} {Xd : Option Addr} {dn xd : Nat} {Al : Option Addr} {ml : Nat} (h : OvP w wr gb x Xd dn xd Al ml) {g : Nat} {cs : Array Value} (hg : Blk wr g 64 cs) (hb : w.heap.size ≤ g) (o : Nat) (z : Int) : OvP w (wr.setCell ⟨g, o, none⟩ (.int .u64 z)) gb x Xd dn xd Al ml :=
  ⟨h.below.setCell hb _, h.box.grown (grown_setCell wr ⟨g, o, none⟩ (.int .u64 z)) (fun e => by simp only [Option.some.injEq] at e; exact blk_ne h.box hg (by decide) e), h.r.set g o z, h.l.set hg o z⟩
theorem ops_len (m : Mp) (o : BOp) : (opsL m o).length ≤ 16 := by
  cases hr : m.right with
  | false => rw [opsL_no (.inl hr)]; exact Nat.zero_le _
  | true =>
    cases ho : o.right m.n with
    | false => rw [opsL_no (.inr ho)]; exact Nat.zero_le _
    | true => rw [opsL_ok hr ho]; exact Nat.le_trans (parts_len _ _ _ _) (right_nd hr).1
section
variable (w : World)
set_option maxRecDepth 100000 in
set_option maxHeartbeats 8000000 in
theorem own_walk (m : Mp) (A : Option Addr) (k c : Nat) (h : Mr w m A k c) (hcb : c * 24 ≤ 140737488351232) (o : BOp) (X : Option Addr) (mm cc : Nat) (hd : Dat w o X mm cc) :
    Calls Try.prog 9 #[mv m A k c, oa o (.slice X mm cc)] w fun e w' => e = .returned (.bool true) ∧ Below w.heap.size w w' := by
  obtain ⟨i1, hi1, hy0, hy1, hy2⟩ := u64_info
  have Hy := Lib.hid hy2
  obtain ⟨i0, hi0, hz0, hz1, hz2⟩ := Sma.pc_info
  have Hz := Lib.hid hz2
  clear hy2 hz2
  have hb1 := (Below.refl w.heap.size w).alloc (Nat.le_refl _) (rmo m A k c)
  have hb2 : Below w.heap.size w ((w.alloc (rmo m A k c)).alloc (oo o (.slice X mm cc))) := hb1.alloc (by simp) _
  have hm2 := (h.alloc (rmo m A k c)).alloc (oo o (.slice X mm cc))
  have hd2 := dat_alloc (dat_alloc hd (rmo m A k c)) (oo o (.slice X mm cc))
  have k1 : Blk ((w.alloc (rmo m A k c)).alloc (oo o (.slice X mm cc))) w.heap.size 24 #[.int .i64 m.v, .int .i64 m.n, .slice A k c] := (Blk.new w _ _ rfl).alloc _
  have k2 : Blk ((w.alloc (rmo m A k c)).alloc (oo o (.slice X mm cc))) (w.heap.size + 1) 27 #[.int .i64 o.kind, .int .i64 o.off, .int .i64 o.len, .slice X mm cc] := Blk.new _ _ _ (by simp)
  have hS : ∀ w', Below ((w.alloc (rmo m A k c)).alloc (oo o (.slice X mm cc))).heap.size ((w.alloc (rmo m A k c)).alloc (oo o (.slice X mm cc))) w' → w'.cell? ⟨w.heap.size, 0, none⟩ = some (.int .i64 m.v) ∧ w'.cell? ⟨w.heap.size, 1, none⟩ = some (.int .i64 m.n) ∧ w'.cell? ⟨w.heap.size, 2, none⟩ = some (.slice A k c) ∧ w'.cell? ⟨w.heap.size + 1, 0, none⟩ = some (.int .i64 o.kind) ∧ w'.cell? ⟨w.heap.size + 1, 1, none⟩ = some (.int .i64 o.off) ∧ w'.cell? ⟨w.heap.size + 1, 2, none⟩ = some (.int .i64 o.len) ∧ w'.cell? ⟨w.heap.size + 1, 3, none⟩ = some (.slice X mm cc) := fun w' hb => ⟨(k1.keep hb).cell rfl, (k1.keep hb).cell rfl, (k1.keep hb).cell rfl, (k2.keep hb).cell rfl, (k2.keep hb).cell rfl, (k2.keep hb).cell rfl, (k2.keep hb).cell rfl⟩
  have HSS := Lib.hid hS
  have hA0 := h.ps.zero
  have hkk := h.le
  have hkc := Nat.le_trans h.le h.cap
  have y1 : 0 + k ≤ maxLen := by unfold maxLen; omega
  have y2 : (0 + k) * 24 ≤ 140737488355328 := by omega
  have hm8 := hd.by8
  have hXn := hd.nil
  have y3 : 0 + mm ≤ maxLen := by unfold maxLen; omega
  have y4 : (0 + mm) * 8 ≤ 140737488355328 := by omega
  have hml : mm ≤ 9223372036854775807 := by omega
  have hsz1 : w.heap.size ≤ ((w.alloc (rmo m A k c)).alloc (oo o (.slice X mm cc))).heap.size := hb2.size
  clear h hd hb1 k1 k2 hS
  go_enter Try.func9, Try.ntmps9
  go_wp2_with (first
    | (at_builtin
       refine wpList_app _ rfl (.const (.slice none 0 0)) (.tmp 15) _ rfl w.heap.size 72 i0 _ 3 24 Try.underlying22 hi0 hz0 hz1 Hz.out rfl (Nat.zero_lt_succ 2) (.slice none 0 0) 0 [] rfl (own_nil _ _ _ _) A k c (Sma.pvs m.ps) rfl hA0 hm2.ps.rd (Sma.pvs_one _) y1 y2 hsz1 ?_
       intro v2 w2 hown2 hg2 hat2
       simp only [Nat.zero_add, List.nil_append] at hown2
       have hb12 : Below ((w.alloc (rmo m A k c)).alloc (oo o (.slice X mm cc))).heap.size ((w.alloc (rmo m A k c)).alloc (oo o (.slice X mm cc))) w2 := (Below.refl _ _).grown hg2 (Nat.le_refl _) (fun k hk => by cases hk)
       obtain ⟨d0, d1, d2, d3, d4, d5, d6⟩ := HSS.out w2 hb12
       have hdx2 := hd2.below hb12
       have hsz2 : w.heap.size ≤ w2.heap.size := Nat.le_trans hsz1 hb12.size)
    | (at_builtin
       refine wpList_app _ rfl (.const (.slice none 0 0)) (.tmp 18) _ rfl w.heap.size 64 i1 _ 1 8 Try.underlying25 hi1 hy0 hy1 Hy.out rfl Nat.one_pos (.slice none 0 0) 0 [] rfl (own_nil _ _ _ _) X mm cc (nvs o.data) rfl (fun h => (hXn h).1) hdx2.ns.1 (nvs_one _) y3 y4 hsz2 ?_
       intro v3 w3 hown3 hg3 hat3
       simp only [Nat.zero_add, List.nil_append] at hown3
       have hb23 : Below w2.heap.size w2 w3 := (Below.refl _ _).grown hg3 (Nat.le_refl _) (fun k hk => by cases hk)
       have hb13 := below_step hb12 hb23 (Nat.le_refl _)
       have S0 := HSS.out w3 hb13)
    | fail)
  clear d0 d1 d2 d3 d4 d5 d6
  have hm3 := hm2.below hb13
  have hd3 := hd2.below hb13
  have hw3 := own_keep hown2 hb23
  obtain ⟨Aw, cw, rfl, hcw, -, -⟩ := own_form hw3
  obtain ⟨Ad, cd, rfl, hcd, -, -⟩ := own_form hown3
  have hwas : Sma.Ps w3 Aw k m.ps := Sma.po_ps hw3 hm3.ps.fit
  have hdat : Ns w3 Ad mm o.data := no_ns hown3 hd3.ns.2
  have hB3 : Below w.heap.size w w3 := below_step hb2 hb13 (Nat.le_refl _)
  have HS3 := Lib.hid (fun w' (hb : Below w3.heap.size w3 w') => HSS.out w' (below_step hb13 hb (Nat.le_refl _)))
  clear hdx2 hsz2 hg2 hat2 hg3 hat3 hb12 hb23 hown2 hown3 hw3 hm2 hd2 hb2 hsz1 hb13 HSS
  go_region_held3 (fun w' => w'.cell? ⟨w.heap.size, 0, none⟩ = some (.int .i64 m.v) ∧ w'.cell? ⟨w.heap.size, 1, none⟩ = some (.int .i64 m.n) ∧ w'.cell? ⟨w.heap.size, 2, none⟩ = some (.slice A k c) ∧ w'.cell? ⟨w.heap.size + 1, 0, none⟩ = some (.int .i64 o.kind) ∧ w'.cell? ⟨w.heap.size + 1, 1, none⟩ = some (.int .i64 o.off) ∧ w'.cell? ⟨w.heap.size + 1, 2, none⟩ = some (.int .i64 o.len) ∧ w'.cell? ⟨w.heap.size + 1, 3, none⟩ = some (.slice X mm cc)) (first | exact S0 | exact S2 | exact S3 | go_keep)
    (first
      | (go_at_call 11
         refine (theirs_ _ m A k c).mono ?_
         rintro e w4 ⟨rfl, hc4⟩
         have hbA : Below w3.heap.size w3 w4 := below_undrew hc4
         have S2 := HS3.out w4 hbA
         have hmA := hm3.below hbA
         have hdA := hd3.below hbA)
      | (go_at_call 10
         refine (ops_ _ m A k c hmA o X mm cc hdA).mono ?_
         obtain ⟨E, hE⟩ : ∃ E, opsE m o = E := ⟨_, rfl⟩
         rw [hE]
         clear hE
         rintro e w5 ⟨A5, n5, c5, L, rfl, hG5, hL5, hc5⟩
         have HL5 := Lib.hid hL5
         have hsA := hbA.size
         have hbB : Below w3.heap.size w3 w5 := below_step hbA hc5 (Nat.le_refl _)
         have S3 := HS3.out w5 hbB))
  clear S0 S2 hmA hdA hL5 S3 hc5 hbA
  have hp := hG5.ptl
  have hn5 : n5 ≤ 16 := by
    have h1 := hp.len
    rw [← List.length_map (f := Prod.fst), HL5.out] at h1
    have := ops_len m o
    omega
  have hl5 : ListP w5 w3.heap.size A5 n5 := list_got (hG5.mono (by first | exact hsA | simpa using hsA))
  clear hG5 HL5 hsA
  obtain ⟨⟨x, er⟩, hr⟩ : ∃ r, wholeA (L.map Prod.fst) = r := ⟨_, rfl⟩
  have HR := Lib.hid hr
  clear hr
  go_wp2_with fail
  refine (whole_ _ A5 n5 c5 L hp (by omega)).mono ?_
  rw [HR.out]
  rintro e w6 ⟨d, rfl, hO, hb6⟩
  obtain ⟨Xd, xd, rfl, hxd, hxm, -⟩ := own_form hO
  have hb36 := below_step hbB hb6 (Nat.le_refl _)
  have hl6 := hl5.keep hb6
  have hr6 : MineN w6 w3.heap.size Xd x.data.length := (mine_own hO).mono hbB.size
  have ha : Below w6.heap.size w6 (w6.alloc (oo x (.slice Xd x.data.length xd))) := (Below.refl _ _).alloc (Nat.le_refl _) _
  have hO7 : OvP w3 (w6.alloc (oo x (.slice Xd x.data.length xd))) w6.heap.size x Xd x.data.length xd A5 n5 :=
    ⟨below_step hb36 ha (Nat.le_refl _), Blk.new w6 _ _ rfl, hr6.keep ha, hl6.keep ha⟩
  have hdn : x.data.length ≤ 9223372036854775807 := by
    unfold maxLen at hxm
    have hxd' : x.data.length ≤ xd := hxd
    omega
  clear hO hb6 hb36 hl6 hl5 hr6 ha hbB hp hxd hxm
  go_wp2_with fail
  generalize (w6.alloc (oo x (.slice Xd x.data.length xd))) = w7 at *
  generalize w6.heap.size = gb at *
  have q0 := hO7.box.cell (j := 3) (u := .slice Xd x.data.length xd) rfl
  generalize x.data.length = dn at *
  go_wp2_with fail
  clear q0
  go_loopw [35] (fun iv wr => ∃ i : Nat, i ≤ dn ∧ iv = .int .i64 (i : Int) ∧ OvP w3 wr gb x Xd dn xd A5 n5) (fun iv _ => dn - (intOf iv).toNat)
  case atStart => exact ⟨0, Nat.zero_le _, rfl, hO7⟩
  case round =>
    obtain ⟨i, hi, rfl, hOx⟩ := hrel
    clear hO7
    by_cases hil : i < dn
    · have hii : (i : Int) < (dn : Int) := by omega
      have hi0 : (0 : Int) ≤ (i : Int) := by omega
      rcases hOx.r with h0 | ⟨g, cur, rfl, hg, hblk, hmc, hcs⟩
      · omega
      · obtain ⟨z, hz⟩ := hcs i hil
        have q0 := hOx.box.cell (j := 3) (u := .slice (some ⟨g, 0, none⟩) dn xd) rfl
        have q1 := hblk.cell hz
        have q2 := hblk.free i
        have hO2 := hOx.set hblk hg i (IntKind.u64.wrap (z + 1))
        clear hOx hblk hcs hmc hz
        go_wp2
        go_roundw
        case rel => exact ⟨i + 1, by omega, by go_num, hO2⟩
        case measure => simp [intOf]; omega
    · have hin : (dn : Int) ≤ (i : Int) := by omega
      obtain ⟨wp, rfl⟩ : ∃ wp : World, wp = wr := ⟨_, rfl⟩
      go_wp2_with fail
      go_loopw [48] (fun iv wx => ∃ i : Nat, i ≤ n5 ∧ iv = .int .i64 (i : Int) ∧ OvP w3 wx gb x Xd dn xd A5 n5) (fun iv _ => n5 - (intOf iv).toNat)
      case atStart => exact ⟨0, Nat.zero_le _, rfl, hOx⟩
      case round =>
        obtain ⟨i, hi, rfl, hOx⟩ := hrel
        obtain ⟨wp, rfl⟩ : ∃ wp : World, wp = wr := ⟨_, rfl⟩
        by_cases hil : i < n5
        · have hii : (i : Int) < (n5 : Int) := by omega
          have hi0 : (0 : Int) ≤ (i : Int) := by omega
          rcases hOx.l with h0 | ⟨gl, curl, rfl, hlb, hle⟩
          · omega
          · obtain ⟨Xk, mk, ck, hck, hmk, hmx⟩ := hle i hil
            have q0 := hlb.cell hck
            have q0' : wp.cell? ⟨gl, i * 6 + 2 + 3, none⟩ = some (.slice Xk mk ck) := q0
            have Hck := Lib.hid hck
            clear hle hck
            go_wp2_with fail
            clear q0 q0'
            go_loopw [58] (fun iv wx => ∃ k : Nat, k ≤ mk ∧ iv = .int .i64 (k : Int) ∧ OvP w3 wx gb x Xd dn xd (some ⟨gl, 0, none⟩) n5 ∧ Blk wx gl 67 curl ∧ MineN wx w3.heap.size Xk mk) (fun iv _ => mk - (intOf iv).toNat)
            case atStart => exact ⟨0, Nat.zero_le _, rfl, hOx, hlb, hmx⟩
            case round =>
              obtain ⟨k', hk, rfl, hOy, hly, hmy⟩ := hrel
              clear hOx hlb hmx
              by_cases hkl : k' < mk
              · have hkk : (k' : Int) < (mk : Int) := by omega
                have hk0 : (0 : Int) ≤ (k' : Int) := by omega
                rcases hmy with h0 | ⟨g, cur, rfl, hg, hblk, hmc, hcs⟩
                · omega
                · obtain ⟨z, hz⟩ := hcs k' hkl
                  have q1 := hblk.cell hz
                  have q2 := hblk.free k'
                  have q0 := hly.cell Hck.out
                  have q0' : wr.cell? ⟨gl, i * 6 + 2 + 3, none⟩ = some (.slice (some ⟨g, 0, none⟩) mk ck) := q0
                  have hne := blk_ne hly hblk (by decide)
                  have hO2 := hOy.set hblk hg k' (IntKind.u64.wrap (z + 1))
                  have hl2 := hly.grown (grown_setCell wr ⟨g, k', none⟩ (.int .u64 (IntKind.u64.wrap (z + 1)))) (fun e => by simp only [Option.some.injEq] at e; exact hne e)
                  have hm2 := MineN.set (show MineN wr w3.heap.size (some ⟨g, 0, none⟩) mk from .inr ⟨g, cur, rfl, hg, hblk, hmc, hcs⟩) g k' (IntKind.u64.wrap (z + 1))
                  clear hOy hly hblk hcs hmc hz
                  go_wp2
                  go_roundw
                  case rel => exact ⟨k' + 1, by omega, by go_num, hO2, hl2, hm2⟩
                  case measure => simp [intOf]; omega
              · have hin : (mk : Int) ≤ (k' : Int) := by omega
                go_wp2
                go_roundw
                case rel => exact ⟨i + 1, by omega, by go_num, hOy⟩
                case measure => simp [intOf]; omega
        · have hin2 : (n5 : Int) ≤ (i : Int) := by omega
          have hb37 := hOx.below
          obtain ⟨d0, d1, d2, e0, e1, e2, e3⟩ := HS3.out wp hb37
          have hm8 := (hm3.below hb37).ps
          have hw8 := hwas.below hb37
          have hx8 := (hd3.below hb37).ns
          have hd8 := hdat.below hb37
          have hB8 := below_step hB3 hb37 (Nat.le_refl _)
          clear hOx hb37 hm3 hwas hd3 hdat hB3 HS3
          go_wp2_with fail
          have w0 := Sma.pieces_ wp A Aw k k c cw m.ps m.ps hm8 hw8 hkc hkc
          rw [Sma.sameB_refl] at w0
          refine w0.mono ?_
          rintro e w9 ⟨j9, rfl, rfl⟩
          have e3' : (wp.drewN j9).cell? ⟨w.heap.size + 1, 3, none⟩ = some (.slice X mm cc) := e3
          have hx9 := hx8.drewN j9
          have hd9 := hd8.drewN j9
          clear e3 hm8 hw8 hx8 hd8 w0
          go_wp2_with fail
          have w1 := Blo.words_ _ X Ad mm mm cc cd o.data o.data hx9 hd9 hml
          rw [decide_eq_true (rfl : o.data = o.data)] at w1
          refine w1.mono ?_
          rintro e wa ⟨rfl, ja, rfl⟩
          go_wp2_with fail
          refine (alive_ _).mono ?_
          rintro e wb ⟨rfl, hbb⟩
          go_wp2
          go_ret
          exact ⟨rfl, below_step hB8 (⟨hbb.os, hbb.tape, hbb.output, hbb.size, hbb.block⟩ : Below wp.heap.size wp wb) (Nat.le_refl _)⟩
end
end Pla
open Pla

set_option maxRecDepth 100000 in
theorem planOwn_lifted (os : Os) (started : os.Started) (H : Type) (enc : TypeId × Value → H) :
    ReturnsInHanded {} Try.checked os 9 .any (Rows.planOwnSpec.pre6 enc Try.prog Try.f9 Rows.planOwnRow.domain false) (Rows.planOwnSpec.post enc Try.prog Try.f9 false true false false) := by
  refine law_lifted (C := Try.checked) (tb := 4) own_ started (by kernel_rfl) Try.func9
    (ChangeSpec.witness6 (enc := enc) (C := Try.checked) false ⟨#[], #[.agg #[.int .i64 0, .int .i64 0, .slice none 0 0], .agg #[.int .i64 0, .int .i64 0, .int .i64 0, .slice none 0 0]], []⟩ 8 (by kernel_rfl) (by kernel_rfl) (by kernel_rfl) (by kernel_rfl))
    rfl rfl Try.underlying4 laidOut_ (by kernel_rfl) (fun ds h => by match ds, h with | [_, _], _ => rfl) ?_
  intro W base args ds p hval0 hA0 _ hsz0
  have hval : ∀ (j : Nat) t v, Try.f9.params[j]? = some t → args[j]? = some v → Value.okWide Try.prog W .any base t v := hval0
  have hA : DataW.TrodAll enc Try.prog W 0 (fun _ => true) true Try.f9.params.toList args.toList ds p := hA0
  have hsz : (DataW.weightsEach Try.prog Try.f9.params.toList ds).all (· ≤ reachBytes) = true := hsz0
  clear hval0 hA0 hsz0
  rw [Try.params9] at hA hval hsz
  obtain ⟨v0, v1, d0, d1, p0, p1, rfl, rfl, rfl, h0, h1⟩ := trodAll_two hA
  obtain ⟨cs0, a0, rfl, r0, b0⟩ := arg_struct Sma.ops_mp Try.underlying24 (hval 0 _ v0 rfl rfl) h0 (weight_at hsz (j := 0) rfl rfl)
  obtain ⟨cs1, a1, rfl, r1, b1⟩ := arg_struct Blo.ops_op Try.underlying27 (hval 1 _ v1 rfl rfl) h1 (weight_at hsz (j := 1) rfl rfl)
  exact by
    obtain ⟨A0, k0, c0, rfl, hm, hcb⟩ := Sma.mp_arr r0
    obtain ⟨X1, m1, c1, rfl, hd⟩ := Blo.op_arr r1
    exact own_walk W (Sma.toMp a0) A0 k0 c0 hm hcb (Blo.toOp a1) X1 m1 c1 hd

/-- PlanOwn, for every input: the statement as it was given. -/
theorem planOwn_holds : Rows.PlanOwnSaid :=
  OpenClaim.holds_of_wide 9 Try.f9 rfl rfl rfl rfl rfl rfl rfl ⟨rfl, rfl, rfl, rfl, rfl⟩ rfl rfl rfl rfl rfl (by kernel_rfl) Try.func9 (by kernel_rfl)
    (of_decide_eq_true (by kernel_rfl)) (by unfold Func.isWrapper; first | (rw [if_pos (by decide +kernel)]; kernel_rfl) | (rw [if_neg (by decide +kernel)]; exact ⟨rfl, rfl⟩))
    (fun os started H enc _ => planOwn_lifted os started H enc)
end Go.Proofs.Ytdcggnfplfgcnaa
