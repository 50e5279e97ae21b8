/- XLanD, XLanE. -/
import Derived.Test.YtganoklclnbjkaaLanC
import Derived.Test.YtganoklclnbjkaaStrV
set_option linter.all false
namespace Go.Proofs.Ytganoklclnbjkaa
open Go.RowKit
namespace Lan
open Str (Rec mayB opOf FitR Rdt Rcl ra oa k8 rc_blk chkE ordB ordA risA midL r0 OpsA opsV Olo SmO)
open Blo (I64 apL apE GotN AnsN)
def hd0 : Rec := ⟨1, 0, 0, 0, 0, 0, 1024, []⟩
def tl0 : Rec := ⟨4, 0, 0, 0, 0, 0, 1, []⟩
theorem hd0_may : mayB hd0 = true := by decide +kernel
theorem tl0_may : mayB tl0 = true := by decide +kernel
theorem right_k {r : Rec} {n : Int} (h : (opOf r).right n = true) : r.k = 2 ∨ r.k = 3 := by
  unfold opOf BOp.right at h
  dsimp only at h
  by_cases h2 : r.k = 2
  · exact .inl h2
  · by_cases h3 : r.k = 3
    · exact .inr h3
    · rw [if_neg h2, if_neg h3] at h
      simp at h
theorem chk3_is (r : Rec) : chkE [hd0, r, tl0] = (if [hd0, r, tl0].all mayB = true then (if ordB [hd0, r, tl0] = true then (if (1024 : Int) < 1024 then 6 else if risA 1024 0 [r] = true then (if (1 : Int) = 1 then 0 else 3) else 5) else 14) else 1) := rfl
theorem ord3 {r : Rec} (h : r.k = 2 ∨ r.k = 3) : ordB [hd0, r, tl0] = true := by
  rcases h with h | h <;> simp [ordB, ordA, hd0, tl0, h]
theorem chk3 {r : Rec} (hm : mayB r = true) : chkE [hd0, r, tl0] = 0 ↔ (opOf r).right 1024 = true := by
  have hall : [hd0, r, tl0].all mayB = true := by simp [hm, hd0_may, tl0_may]
  have hris : risA 1024 0 [r] = ((opOf r).right 1024 && decide (0 ≤ (opOf r).off)) := by simp [risA]
  rw [chk3_is, if_pos hall, if_neg (show ¬ (1024 : Int) < 1024 by omega), if_pos rfl, hris]
  constructor
  · intro h
    split at h
    · split at h
      · rename_i hr
        rw [Bool.and_eq_true] at hr
        exact hr.1
      · cases h
    · cases h
  · intro h
    have hlow := (ok_of_right h).1.low
    rw [if_pos (ord3 (right_k h)), if_pos (by rw [h, decide_eq_true hlow]; rfl)]
theorem results_op2 {fn : Func} {W : World} {q : Nat} {x y z d : Value} {tmps : Array Value} (hr : fn.results = #[.cell 2 67, .tmp 3]) (h2 : tmps.getD 2 undef = .pointer (some ⟨q, 0, none⟩)) (hb : Blk W q 67 #[x, y, z, d]) :
    (results fn tmps).run Try.prog W = .ok (.tuple #[.agg #[x, y, z, d], tmps.getD 3 undef]) W := by
  have d0 := hb.cell (j := 0) rfl
  have d1 := hb.cell (j := 1) rfl
  have d2 := hb.cell (j := 2) rfl
  have d3 := hb.cell (j := 3) rfl
  have h2' : tmps[2]?.getD undef = .pointer (some ⟨q, 0, none⟩) := by simpa using h2
  simp [results, hr, h2', go_sem, d0, d1, d2, d3]
theorem rdt_nil (w : World) (r : Rec) (h : r.d = []) (hf : FitR r) : Rdt w r none 0 0 := ⟨by rw [h]; exact Ns.nil, fun _ => ⟨rfl, rfl⟩, Nat.le_refl _, by omega, by omega, hf⟩
theorem i64s {z : Int} (h0 : 0 ≤ z) (h1 : z ≤ 1024) : I64 z := by unfold I64; omega
theorem hd0_fit : FitR hd0 := ⟨i64s (by decide) (by decide), i64s (by decide) (by decide), i64s (by decide) (by decide), i64s (by decide) (by decide), i64s (by decide) (by decide), i64s (by decide) (by decide), i64s (by decide) (by decide)⟩
theorem tl0_fit : FitR tl0 := ⟨i64s (by decide) (by decide), i64s (by decide) (by decide), i64s (by decide) (by decide), i64s (by decide) (by decide), i64s (by decide) (by decide), i64s (by decide) (by decide), i64s (by decide) (by decide)⟩
abbrev ra3 (r : Rec) (X : Option Addr) (m c : Nat) : Array Value := #[.int .i64 1, .int .i64 0, .int .i64 0, .int .i64 0, .int .i64 0, .int .i64 0, .int .i64 1024, .slice none 0 0, .int .i64 r.k, .int .i64 r.sh, .int .i64 r.sn, .int .i64 r.ba, .int .i64 r.ma, .int .i64 r.off, .int .i64 r.len, .slice X m c, .int .i64 4, .int .i64 0, .int .i64 0, .int .i64 0, .int .i64 0, .int .i64 0, .int .i64 1, .slice none 0 0]
theorem rcl3 {w : World} {r : Rec} {X : Option Addr} {m c : Nat} (h : Rdt w r X m c) {t : TypeId} {g : Nat} (hg : g = w.heap.size) : Rcl (w.alloc (.cells (ra3 r X m c) t)) (some ⟨g, 0, none⟩) 3 [hd0, r, tl0] := by
  subst hg
  have hb : Below w.heap.size w (w.alloc (.cells (ra3 r X m c) t)) := (Below.refl _ _).alloc (Nat.le_refl _) _
  have hn := Blk.new w t (ra3 r X m c) rfl
  refine ⟨rfl, fun k hk => ?_⟩
  match k, hk with
  | 0, _ => exact ⟨_, 0, none, 0, 0, rfl, fun j u hu => hn.cell (by rw [Nat.zero_mul, Nat.zero_add]; match j, hu with | 0, h | 1, h | 2, h | 3, h | 4, h | 5, h | 6, h | 7, h => exact h), rdt_nil _ _ rfl hd0_fit⟩
  | 1, _ => exact ⟨_, 0, X, m, c, rfl, fun j u hu => hn.cell (by match j, hu with | 0, h | 1, h | 2, h | 3, h | 4, h | 5, h | 6, h | 7, h => exact h), h.below hb⟩
  | 2, _ => exact ⟨_, 0, none, 0, 0, rfl, fun j u hu => hn.cell (by match j, hu with | 0, h | 1, h | 2, h | 3, h | 4, h | 5, h | 6, h | 7, h => exact h), rdt_nil _ _ rfl tl0_fit⟩
theorem enters_Ops (vs : Array Value) (w : World) : (callFunc 46 vs).run Try.prog w = .ok (.enter 46 vs) w := by go_simp
end Lan
end Go.Proofs.Ytganoklclnbjkaa

set_option linter.all false
namespace Go.Proofs.Ytganoklclnbjkaa
open Go.RowKit
namespace Lan
open Str (Rec mayB opOf FitR Rdt Rcl ra oa k8 rc_blk chkE OpsA opsV Olo SmO)
open Blo (I64 apL apE GotN AnsN)
/-- The one op that was answered. -/
theorem olo_one {w : World} {base n c : Nat} {A : Option Addr} {x : BOp} {L : List (BOp × Value)} (h : Olo w base (.slice A n c) n L) (hL : L.map Prod.fst = [x]) :
    n = 1 ∧ ∃ b o D cd, A = some ⟨b, o, none⟩ ∧ w.cell? ⟨b, o, none⟩ = some (.int .i64 x.kind) ∧ w.cell? ⟨b, o + 1, none⟩ = some (.int .i64 x.off) ∧ w.cell? ⟨b, o + 2, none⟩ = some (.int .i64 x.len) ∧ w.cell? ⟨b, o + 3, none⟩ = some (.slice D x.data.length cd) ∧ Blo.Dat w x D x.data.length cd ∧ base ≤ b ∧ (∀ a, D = some a → base ≤ a.block) := by
  match L, hL with
  | [(y, V)], hL =>
    obtain rfl : y = x := by simpa using hL
    have hn : n = 1 := h.len
    subst hn
    have hs := h.sm _ (List.mem_singleton.2 rfl)
    have hd := h.data _ (List.mem_singleton.2 rfl)
    obtain ⟨D, cd, e, hD⟩ := Str.dat_own hd hs
    simp only at e
    subst e
    have hrd := rd_own h.row
    have e0 := hrd.2 0 _ rfl
    have e1 := hrd.2 1 _ rfl
    have e2 := hrd.2 2 _ rfl
    have e3 := hrd.2 3 _ rfl
    obtain ⟨b, o, rfl, e0⟩ := e0
    have g : ∀ {j : Nat} {u : Value}, (∃ b' o', some (⟨b, o, none⟩ : Addr) = some ⟨b', o', none⟩ ∧ w.cell? ⟨b', o' + j, none⟩ = some u) → w.cell? ⟨b, o + j, none⟩ = some u := fun ⟨b', o', e, hc⟩ => by
      injection e with e
      injection e with h1 h2
      subst h1 h2
      exact hc
    exact ⟨rfl, b, o, D, cd, rfl, by simpa using e0, g e1, g e2, g e3, hD, (h.row.lt b rfl).1, fun a ha => by subst ha; exact (hd.lt a.block rfl).1⟩
section
variable (w : World)
set_option maxRecDepth 100000 in
set_option maxHeartbeats 2000000 in
theorem op_no (r : Rec) (X : Option Addr) (m c : Nat) (h : Rdt w r X m c) (hm : mayB r = true) (hr : (opOf r).right 1024 = false) :
    Calls Try.prog 43 #[.agg (ra r (.slice X m c))] w fun e w' => e = .returned (.tuple #[.agg #[.int .i64 0, .int .i64 0, .int .i64 0, .slice none 0 0], .bool false]) ∧ Below w.heap.size w w' := by
  obtain ⟨E, hE⟩ : ∃ E, chkE [hd0, r, tl0] = E := ⟨_, rfl⟩
  have hE0 : E ≠ 0 := fun e => by
    have := (chk3 hm).1 (hE.trans e)
    rw [hr] at this
    cases this
  have HE := Lib.hid hE
  clear hE hr
  have hE2 : (E != 0) = true := by simp [hE0]
  obtain ⟨w1, hw1⟩ : ∃ w1, w.alloc (.cells (ra r (.slice X m c)) 29) = w1 := ⟨_, rfl⟩
  have hs1 : w1.heap.size = w.heap.size + 1 := by rw [← hw1]; simp
  have hb1 : Below w.heap.size w w1 := by rw [← hw1]; exact (Below.refl _ _).alloc (Nat.le_refl _) _
  have hr1 : Blk w1 w.heap.size 29 (ra r (.slice X m c)) := by rw [← hw1]; exact Blk.new w _ _ rfl
  obtain ⟨w2, hw2⟩ : ∃ w2, w1.alloc (.cells #[.int .i64 0, .int .i64 0, .int .i64 0, .slice none 0 0] 67) = w2 := ⟨_, rfl⟩
  have hb2 : Below w.heap.size w w2 := by rw [← hw2]; exact hb1.alloc hb1.size _
  have hs2 : w2.heap.size = w.heap.size + 2 := by rw [← hw2]; simp [hs1]
  have hq2 : Blk w2 (w.heap.size + 1) 67 #[.int .i64 0, .int .i64 0, .int .i64 0, .slice none 0 0] := by rw [← hw2]; exact Blk.new w1 _ _ hs1.symm
  have hr2 : Blk w2 w.heap.size 29 (ra r (.slice X m c)) := by rw [← hw2]; exact hr1.alloc _
  obtain ⟨c0, c1, c2, c3, c4, c5, c6, c7⟩ := k8 hr2
  have hL := rcl3 (h.below hb2) (t := 29) (w := w2) hs2.symm
  have hb3 : Below w2.heap.size w2 (w2.alloc (.cells (ra3 r X m c) 29)) := (Below.refl _ _).alloc (Nat.le_refl _) _
  clear h hr1 hb1
  go_enter Try.func43, Try.ntmps43
  go_wp2_with fail
  refine (Str.sops_ _ _ 3 3 [hd0, r, tl0] hL (by omega) (by omega) (by omega)).mono ?_
  rintro e w4 ⟨B, p, cc, L, rfl, hO, hLL, hb4⟩
  rw [HE.out]
  have hb34 := below_step hb3 hb4 (Nat.le_refl _)
  have hq4 := hq2.keep hb34
  have z4 := hq4.free
  have q0 := hq4.cell (j := 0) (u := .int .i64 0) rfl
  have q1 := hq4.cell (j := 1) (u := .int .i64 0) rfl
  have q2 := hq4.cell (j := 2) (u := .int .i64 0) rfl
  have q3 := hq4.cell (j := 3) (u := .slice none 0 0) rfl
  have hB4 : Below w.heap.size w w4 := hb2.trans (hb34.mono hb2.size)
  clear hb3 hb4 hb34 hL hLL hO HE
  go_wp2
  refine bodyPost_ret (results_op2 rfl rfl ((((hq4.setCell 0 (.int .i64 0)).setCell 1 (.int .i64 0)).setCell 2 (.int .i64 0)).setCell 3 (.slice none 0 0))) rfl ?_
  exact ⟨rfl, (((hB4.setCell (by simp) _).setCell (by simp) _).setCell (by simp) _).setCell (by simp) _⟩
set_option maxRecDepth 100000 in
set_option maxHeartbeats 2000000 in
theorem op_yes (r : Rec) (X : Option Addr) (m c : Nat) (h : Rdt w r X m c) (hm : mayB r = true) (hr : (opOf r).right 1024 = true) :
    Calls Try.prog 43 #[.agg (ra r (.slice X m c))] w fun e w' => ∃ D cd, e = .returned (.tuple #[.agg (oa (opOf r) (.slice D m cd)), .bool true]) ∧ Blo.Dat w' (opOf r) D m cd ∧ Below w.heap.size w w' := by
  have hE : chkE [hd0, r, tl0] = 0 := (chk3 hm).2 hr
  have HV := Lib.hid (show opsV [hd0, r, tl0] = [opOf r] by unfold opsV; rw [if_pos hE]; rfl)
  have HE := Lib.hid hE
  have Hm := Lib.hid h.len
  clear hE hr
  obtain ⟨w1, hw1⟩ : ∃ w1, w.alloc (.cells (ra r (.slice X m c)) 29) = w1 := ⟨_, rfl⟩
  have hs1 : w1.heap.size = w.heap.size + 1 := by rw [← hw1]; simp
  have hb1 : Below w.heap.size w w1 := by rw [← hw1]; exact (Below.refl _ _).alloc (Nat.le_refl _) _
  have hr1 : Blk w1 w.heap.size 29 (ra r (.slice X m c)) := by rw [← hw1]; exact Blk.new w _ _ rfl
  obtain ⟨w2, hw2⟩ : ∃ w2, w1.alloc (.cells #[.int .i64 0, .int .i64 0, .int .i64 0, .slice none 0 0] 67) = w2 := ⟨_, rfl⟩
  have hb2 : Below w.heap.size w w2 := by rw [← hw2]; exact hb1.alloc hb1.size _
  have hs2 : w2.heap.size = w.heap.size + 2 := by rw [← hw2]; simp [hs1]
  have hq2 : Blk w2 (w.heap.size + 1) 67 #[.int .i64 0, .int .i64 0, .int .i64 0, .slice none 0 0] := by rw [← hw2]; exact Blk.new w1 _ _ hs1.symm
  have hr2 : Blk w2 w.heap.size 29 (ra r (.slice X m c)) := by rw [← hw2]; exact hr1.alloc _
  obtain ⟨c0, c1, c2, c3, c4, c5, c6, c7⟩ := k8 hr2
  have hL := rcl3 (h.below hb2) (t := 29) (w := w2) hs2.symm
  have hb3 : Below w2.heap.size w2 (w2.alloc (.cells (ra3 r X m c) 29)) := (Below.refl _ _).alloc (Nat.le_refl _) _
  clear h hr1 hb1
  go_enter Try.func43, Try.ntmps43
  go_wp2_with fail
  refine (Str.sops_ _ _ 3 3 [hd0, r, tl0] hL (by omega) (by omega) (by omega)).mono ?_
  rintro e w4 ⟨B, p, cc, L, rfl, hO, hLL, hb4⟩
  rw [HE.out]
  rw [HV.out] at hLL
  have hb34 := below_step hb3 hb4 (Nat.le_refl _)
  have hq4 := hq2.keep hb34
  have z4 := hq4.free
  have hB4 : Below w.heap.size w w4 := hb2.trans (hb34.mono hb2.size)
  have hsz34 := hb3.size
  have hsz2 := hb2.size
  obtain ⟨rfl, bb, o, D, cd, rfl, e0, e1, e2, e3, hd, hbb, hDD⟩ := olo_one hO hLL
  obtain rfl : m = (opOf r).data.length := Hm.out
  have hz3 : w.heap.size + 3 ≤ (w2.alloc (.cells (ra3 r X (opOf r).data.length c) 29)).heap.size := by simp [hs2]
  have hne : bb ≠ w.heap.size + 1 := by omega
  have q0 := hq4.cell (j := 0) (u := .int .i64 0) rfl
  have q1 := hq4.cell (j := 1) (u := .int .i64 0) rfl
  have q2 := hq4.cell (j := 2) (u := .int .i64 0) rfl
  have q3 := hq4.cell (j := 3) (u := .slice none 0 0) rfl
  have hg := World.grownBy.trans (World.grownBy.trans (World.grownBy.trans (grown_setCell w4 ⟨w.heap.size + 1, 0, none⟩ (.int .i64 (opOf r).kind)) (grown_setCell _ ⟨w.heap.size + 1, 1, none⟩ (.int .i64 (opOf r).off))) (grown_setCell _ ⟨w.heap.size + 1, 2, none⟩ (.int .i64 (opOf r).len))) (grown_setCell _ ⟨w.heap.size + 1, 3, none⟩ (.slice D (opOf r).data.length cd))
  have hd2 := hd.grown hg (fun a ha e => by have := hDD a ha; injection e with e; simp only at e; omega)
  clear hb3 hb4 hb34 hL hLL HE
  go_wp2
  refine bodyPost_ret (results_op2 rfl rfl ((((hq4.setCell 0 (.int .i64 (opOf r).kind)).setCell 1 (.int .i64 (opOf r).off)).setCell 2 (.int .i64 (opOf r).len)).setCell 3 (.slice D (opOf r).data.length cd))) rfl ?_
  exact ⟨D, cd, rfl, hd2, (((hB4.setCell (by simp) _).setCell (by simp) _).setCell (by simp) _).setCell (by simp) _⟩
end
end Lan
end Go.Proofs.Ytganoklclnbjkaa
