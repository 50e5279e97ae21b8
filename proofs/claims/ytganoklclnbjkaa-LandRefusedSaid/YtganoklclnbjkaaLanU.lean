/- XLanT, XLanU. -/
import Derived.Test.YtganoklclnbjkaaLanS
set_option linter.all false
namespace Go.Proofs.Ytganoklclnbjkaa
open Go.RowKit
namespace Lan
open Str (Rec mayB opOf FitR Rdt Rcl ra oa k4 k8 rc_blk farB)
open Blo (I64 apL apE GotN AnsN)
/-- The document's op of a record. -/
def ropOf (r : Rec) : BOp := if r.k = 2 then ⟨1, r.off, 0, r.d⟩ else ⟨2, r.off, r.len, []⟩
theorem ropOf_is {r : Rec} (hm : mayB r = true) (hk : r.k = 2 ∨ r.k = 3) : ropOf r = opOf r := by
  rcases hk with hk | hk
  · rw [may_x2 hk] at hm
    simp only [Bool.and_eq_true, decide_eq_true_eq, xr2_iff] at hm
    have h := hm.2.1.2.2.2.2
    unfold ropOf opOf
    rw [if_pos hk, if_pos hk, h]
  · rw [may_x3 hk] at hm
    simp only [Bool.and_eq_true, decide_eq_true_eq, xr3_iff] at hm
    have h := hm.2.1.2.2.2.2
    have h2 : ¬ r.k = 2 := by omega
    unfold ropOf opOf
    rw [if_neg h2, if_neg h2, if_pos hk, h]
theorem ropOf_dat {w : World} {r : Rec} {X : Option Addr} {m c : Nat} (h : Rdt w r X m c) : ∃ Y p d, (if r.k = 2 then (Value.slice X m c) else .slice none 0 0) = .slice Y p d ∧ Blo.Dat w (ropOf r) Y p d := by
  have h1 : I64 1 := by unfold I64; omega
  have h2 : I64 2 := by unfold I64; omega
  unfold ropOf
  by_cases hk : r.k = 2
  · rw [if_pos hk, if_pos hk]
    exact ⟨X, m, c, rfl, ⟨h.ns, h.nil, h.le, h.cap, h.by8, ⟨h1, h.fit.off, zi64⟩⟩⟩
  · rw [if_neg hk, if_neg hk]
    exact ⟨none, 0, 0, rfl, Blo.dat_nil w _ rfl ⟨h2, h.fit.off, h.fit.len⟩⟩
/-- Something is answered. -/
def SayB (e : Ending) : Prop := ∃ q : Bool, e = .returned (.bool q)
section
variable (w : World)
set_option maxRecDepth 100000 in
set_option maxHeartbeats 2000000 in
theorem rop_ (r : Rec) (X : Option Addr) (m c : Nat) (h : Rdt w r X m c) : Calls Try.prog 34 #[.agg (ra r (.slice X m c))] w fun e w' => ∃ Y p d, e = .returned (.agg (oa (ropOf r) (.slice Y p d))) ∧ Blo.Dat w' (ropOf r) Y p d ∧ Below w.heap.size w w' := by
  by_cases hk : r.k = 2
  · have hkb : (r.k == 2) = true := by simpa using hk
    have HO := Lib.hid (show ropOf r = ⟨1, r.off, 0, r.d⟩ by unfold ropOf; rw [if_pos hk])
    obtain ⟨W, hW⟩ : ∃ W, (w.alloc (.cells (ra r (.slice X m c)) 29)).alloc (.cells #[.int .i64 1, .int .i64 r.off, .int .i64 0, .slice X m c] 67) = W := ⟨_, rfl⟩
    have hbW : Below w.heap.size w W := by rw [← hW]; exact ((Below.refl _ _).alloc (Nat.le_refl _) _).alloc (by simp) _
    have hq : Blk W (w.heap.size + 1) 67 #[.int .i64 1, .int .i64 r.off, .int .i64 0, .slice X m c] := by rw [← hW]; exact Blk.new (w.alloc _) _ _ (by simp)
    have hd := h.below hbW
    have h1 : I64 1 := by unfold I64; omega
    have hD : Blo.Dat W ⟨1, r.off, 0, r.d⟩ X m c := ⟨hd.ns, hd.nil, hd.le, hd.cap, hd.by8, ⟨h1, hd.fit.off, zi64⟩⟩
    clear hk h hd
    go_enter Try.func34, Try.ntmps34
    go_wp2
    refine bodyPost_ret (Str.results_op10 rfl rfl hq) rfl ?_
    rw [HO.out]
    exact ⟨X, m, c, rfl, hD, hbW⟩
  · have hkb : (r.k == 2) = false := by simpa using hk
    have HO := Lib.hid (show ropOf r = ⟨2, r.off, r.len, []⟩ by unfold ropOf; rw [if_neg hk])
    obtain ⟨W, hW⟩ : ∃ W, (w.alloc (.cells (ra r (.slice X m c)) 29)).alloc (.cells #[.int .i64 2, .int .i64 r.off, .int .i64 r.len, .slice none 0 0] 67) = W := ⟨_, rfl⟩
    have hbW : Below w.heap.size w W := by rw [← hW]; exact ((Below.refl _ _).alloc (Nat.le_refl _) _).alloc (by simp) _
    have hq : Blk W (w.heap.size + 1) 67 #[.int .i64 2, .int .i64 r.off, .int .i64 r.len, .slice none 0 0] := by rw [← hW]; exact Blk.new (w.alloc _) _ _ (by simp)
    have h2 : I64 2 := by unfold I64; omega
    have hD : ∀ W', Blo.Dat W' ⟨2, r.off, r.len, []⟩ none 0 0 := fun W' => Blo.dat_nil W' _ rfl ⟨h2, h.fit.off, h.fit.len⟩
    have q3 := hq.cell (j := 3) (u := .slice none 0 0) rfl
    have hz := hq.free
    clear hk h
    go_enter Try.func34, Try.ntmps34
    go_wp2
    refine bodyPost_ret (Str.results_op10 rfl rfl (hq.setCell 3 (.slice none 0 0))) rfl ?_
    rw [HO.out]
    exact ⟨none, 0, 0, rfl, hD _, hbW.setCell (by simp) _⟩
set_option maxRecDepth 100000 in
set_option maxHeartbeats 2000000 in
theorem order_ (A : Option Addr) (n c : Nat) (l : List Rec) (h : Rcl w A n l) (hn : n ≤ 9223372036854775807) : Calls Try.prog 33 #[.slice A n c] w fun e w' => SayB e ∧ w = w' := by
  by_cases h2 : n < 2
  · have h2i : (n : Int) < 2 := by omega
    go_enter Try.func33, Try.ntmps33
    go_wp2
    go_ret
    exact ⟨⟨_, rfl⟩, rfl⟩
  · obtain ⟨q, rfl⟩ : ∃ q, n = q + 2 := ⟨n - 2, by omega⟩
    obtain ⟨b, o, X0, m0, k0, x0, rfl, hx0, rc0, hd0⟩ := h.at_ (k := 0) (by omega)
    obtain ⟨b', o', Xq, mq, kq, xq, eA, hxq, rcq, hdq⟩ := h.at_ (k := q + 1) (by omega)
    injection eA with eA
    injection eA with e1 e2
    subst e1 e2
    have g0 := rc0.c0
    simp only [Nat.zero_mul, Nat.add_zero] at g0
    have gq := rcq.c0
    have hq1 : (q : Int) + 2 - 1 = (q : Int) + 1 := by omega
    have hq2 : ((q : Int) + 1).toNat = q + 1 := by omega
    have t1 : (0 : Int) ≤ (q : Int) + 1 := by omega
    have t2 : (q : Int) + 1 < (q : Int) + 2 := by omega
    have t8 : (0 : Int) < (q : Int) + 2 := by omega
    have t9 : ¬ (q : Int) + 2 < 2 := by omega
    clear h2 rc0 rcq hx0 hxq hd0 hdq
    cases hk0 : (x0.k != 1) with
    | true =>
      go_enter Try.func33, Try.ntmps33
      go_wp2
      go_ret
      exact ⟨⟨_, rfl⟩, rfl⟩
    | false =>
      cases hkq : (xq.k != 4) with
      | true =>
        go_enter Try.func33, Try.ntmps33
        go_wp2
        go_ret
        exact ⟨⟨_, rfl⟩, rfl⟩
      | false =>
        go_enter Try.func33, Try.ntmps33
        go_wp2_with fail
        go_loopw [4] (fun iv wr => ∃ i : Nat, 1 ≤ i ∧ i ≤ q + 1 ∧ iv = .int .i64 (i : Int) ∧ wr = w) (fun iv _ => q + 1 - (intOf iv).toNat)
        case atStart => exact ⟨1, by omega, by omega, rfl, rfl⟩
        case round =>
          obtain ⟨i, hi1, hi, rfl, rfl⟩ := hrel
          by_cases hlt : i < q + 1
          · have hil : (i : Int) < (q : Int) + 1 := by omega
            have hil2 : (i : Int) < (q : Int) + 2 := by omega
            have hi0 : (0 : Int) ≤ (i : Int) := by omega
            obtain ⟨b', o', X, m, cc, x, eA, hx, rc, hd⟩ := h.at_ (k := i) (by omega)
            injection eA with eA
            injection eA with e1 e2
            subst e1 e2
            have gi := rc.c0
            clear rc hx hd g0 gq h
            cases hA : (x.k == 1) with
            | true =>
              go_wp2
              go_ret
              exact ⟨⟨_, rfl⟩, rfl⟩
            | false =>
              cases hB : (x.k == 4) with
              | true =>
                go_wp2
                go_ret
                exact ⟨⟨_, rfl⟩, rfl⟩
              | false =>
                go_wp2
                go_roundw
                case rel => exact ⟨i + 1, by omega, by omega, by go_num, trivial⟩
                case measure => simp [intOf]; omega
          · have hin : (q : Int) + 1 ≤ (i : Int) := by omega
            clear g0 gq h
            go_wp2
            go_ret
            exact ⟨⟨_, rfl⟩, rfl⟩
end
end Lan
end Go.Proofs.Ytganoklclnbjkaa

set_option linter.all false
namespace Go.Proofs.Ytganoklclnbjkaa
open Go.RowKit
namespace Lan
open Str (Rec mayB opOf FitR Rdt Rcl ra oa k4 k8 rc_blk farB r0 midL)
open Blo (I64 apL apE GotN AnsN)
/-- Are these the document's ops of a volume of n blocks, each behind the one ahead? -/
def risQ (n : Int) : Int → List Rec → Bool
  | _, [] => true
  | e, r :: l => (ropOf r).right n && (decide (e ≤ (ropOf r).from_) && risQ n ((ropOf r).from_ + (ropOf r).cnt) l)
/-- What Check says, if it says nothing wrong. -/
structure GoodL (l : List Rec) : Prop where
  may : l.all mayB = true
  len : (l.getD 0 r0).len ≤ 1024
  ris : risQ (l.getD 0 r0).len 0 (midL l) = true
def RChk (w w' : World) (e : Ending) (l : List Rec) : Prop := ∃ er : Int, e = .returned (.int .i64 er) ∧ (er = 0 → GoodL l) ∧ Below w.heap.size w w'
theorem midL_at {l : List Rec} {q i : Nat} {x : Rec} (hl : q + 2 = l.length) (hi : i < q) (h : l[i + 1]? = some x) : (midL l)[i]? = some x := by
  unfold midL
  rw [List.getElem?_take, if_pos (by omega), List.getElem?_drop, Nat.add_comm]
  exact h
theorem midL_len {l : List Rec} {q : Nat} (hl : q + 2 = l.length) : (midL l).length = q := by
  unfold midL
  rw [List.length_take, List.length_drop]
  omega
theorem enters_RRight (vs : Array Value) (w : World) : (callFunc 28 vs).run Try.prog w = .ok (.enter 28 vs) w := by go_simp
section
variable (w : World)
set_option maxRecDepth 100000 in
set_option maxHeartbeats 4000000 in
theorem rcheck_ (A : Option Addr) (q c : Nat) (l : List Rec) (h : Rcl w A (q + 2) l) (hn : q + 2 ≤ 9223372036854775807) : Calls Try.prog 22 #[.slice A (q + 2) c] w fun e w' => RChk w w' e l := by
  have Hl := Lib.hid h.len
  obtain ⟨b, o, X0, m0, k0, x0, rfl, hx0, rc0, hd0⟩ := h.at_ (k := 0) (by omega)
  obtain ⟨b', o', Xq, mq, kq, xq, eA, hxq, rcq, hdq⟩ := h.at_ (k := q + 1) (by omega)
  injection eA with eA
  injection eA with e1 e2
  subst e1 e2
  have HX0 := Lib.hid (show l.getD 0 r0 = x0 by simp [List.getD, hx0])
  have hf0 := hd0.fit.len
  have g0 := rc0.c6
  simp only [Nat.zero_mul, Nat.add_zero] at g0
  have gq := rcq.c6
  have hq1 : (q : Int) + 2 - 1 = (q : Int) + 1 := by omega
  have hq3 : (q : Int) + 2 - 2 = (q : Int) := by omega
  have hq2 : ((q : Int) + 1).toNat = q + 1 := by omega
  have t1 : (0 : Int) ≤ (q : Int) + 1 := by omega
  have t2 : (q : Int) + 1 < (q : Int) + 2 := by omega
  have t8 : (0 : Int) < (q : Int) + 2 := by omega
  clear rc0 rcq hx0 hxq hd0 hdq
  go_enter Try.func22, Try.ntmps22
  go_wp2_with fail
  go_loopw [3] (fun iv wr => ∃ i : Nat, i ≤ q + 2 ∧ iv = .int .i64 (i : Int) ∧ Hid ((l.drop i).all mayB = l.all mayB) ∧ Below w.heap.size w wr) (fun iv _ => q + 2 - (intOf iv).toNat)
  case atStart => exact ⟨0, Nat.zero_le _, rfl, Lib.hid rfl, Below.refl _ _⟩
  case round =>
    obtain ⟨i, hi, rfl, HL, hb⟩ := hrel
    by_cases hlt : i < q + 2
    · have hil : (i : Int) < (q : Int) + 2 := by omega
      have hi0 : (0 : Int) ≤ (i : Int) := by omega
      obtain ⟨b', o', X, m, cc, x, eA, hx, hc, hd⟩ := (h.below hb).at_ hlt
      injection eA with eA
      injection eA with e1 e2
      subst e1 e2
      obtain ⟨c0, c1, c2, c3, c4, c5, c6, c7⟩ := hc.all
      have hL := HL.out
      rw [Str.all_at hx] at hL
      clear h HL hx hc g0 gq
      go_wp2_with fail
      refine (rmay_ _ x X m cc hd).mono ?_
      cases hm : mayB x with
      | false =>
        rintro e w' ⟨rfl, hb'⟩
        have hB := below_step hb hb' (Nat.le_refl _)
        clear hL hm
        go_wp2
        go_ret
        exact ⟨1, rfl, fun e => (by cases e), hB⟩
      | true =>
        have HL2 := Lib.hid (show (l.drop (i + 1)).all mayB = l.all mayB by rw [← hL, hm]; rfl)
        rintro e w' ⟨rfl, hb'⟩
        have hB := below_step hb hb' (Nat.le_refl _)
        clear hL hm
        go_wp2
        go_roundw
        case rel => exact ⟨i + 1, by omega, by go_num, HL2, hB⟩
        case measure => simp [intOf]; omega
    · have hin : (q : Int) + 2 ≤ (i : Int) := by omega
      have HMAY := Lib.hid (show l.all mayB = true by rw [← HL.out, List.drop_of_length_le (by have := Hl.out; omega)]; rfl)
      have h1 := h.below hb
      clear HL
      go_wp2_with fail
      refine (order_ wr (some ⟨b, o, none⟩) (q + 2) c l h1 hn).mono ?_
      rintro e w2 ⟨⟨qb, rfl⟩, rfl⟩
      have hg0 := (hb.cell (cell_lt g0)).trans g0
      cases qb with
      | false =>
        clear g0 gq
        go_wp2
        go_ret
        exact ⟨14, rfl, fun e => (by cases e), hb⟩
      | true =>
        by_cases hlen : 1024 < x0.len
        · clear g0 gq
          go_wp2
          go_ret
          exact ⟨6, rfl, fun e => (by cases e), hb⟩
        · have HLEN := Lib.hid (show (l.getD 0 r0).len ≤ 1024 by rw [HX0.out]; omega)
          clear hlt hi
          obtain ⟨wo, rfl⟩ : ∃ wo : World, wo = wr := ⟨_, rfl⟩
          go_wp2_with fail
          go_loopw [4, 5] (fun ev iv wz => ∃ (j : Nat) (en : Int), j ≤ q ∧ iv = .int .i64 ((j + 1 : Nat) : Int) ∧ ev = .int .i64 en ∧ (0 ≤ en ∧ en ≤ 1024) ∧ Hid (risQ x0.len en ((midL l).drop j) = risQ x0.len 0 (midL l)) ∧ Below w.heap.size w wz) (fun _ iv _ => q + 1 - (intOf iv).toNat)
          case atStart => exact ⟨0, 0, Nat.zero_le _, rfl, rfl, ⟨by omega, by omega⟩, Lib.hid rfl, hb⟩
          case round =>
            obtain ⟨j, en, hj, rfl, rfl, ⟨hen0, hen1⟩, HR, hbz⟩ := hrel
            obtain ⟨i2, hi2⟩ : ∃ i2, j + 1 = i2 := ⟨_, rfl⟩
            rw [hi2]
            have Hi2 := Lib.hid hi2
            have hgz := (hbz.cell (cell_lt g0)).trans g0
            by_cases hlt : j < q
            · have hil : (i2 : Int) < (q : Int) + 1 := by omega
              have hil2 : (i2 : Int) < (q : Int) + 2 := by omega
              have hi20 : (0 : Int) ≤ (i2 : Int) := by omega
              obtain ⟨b', o', X, m, cc, x, eA, hx, hc, hd⟩ := (h.below hbz).at_ (k := i2) (by omega)
              injection eA with eA
              injection eA with e1 e2
              subst e1 e2
              obtain ⟨c0, c1, c2, c3, c4, c5, c6, c7⟩ := hc.all
              have hmx := midL_at Hl.out hlt (by rw [Hi2.out]; exact hx)
              have hR := HR.out
              rw [Blo.drop_of hmx, risQ] at hR
              have HR2 := Lib.hid hR
              clear hi2 h hc hx HR hR hmx h1 gq hg0
              go_wp2_with fail
              refine (rop_ wr x X m cc hd).mono ?_
              rintro e w3 ⟨Y, p, d, rfl, hD, hb3⟩
              obtain ⟨oo, hoo⟩ : ∃ oo, ropOf x = oo := ⟨_, rfl⟩
              rw [hoo] at hD HR2 ⊢
              have hB3 := below_step hbz hb3 (Nat.le_refl _)
              obtain ⟨w4, hw4⟩ : ∃ w4, w3.alloc (.cells (oa oo (.slice Y p d)) 67) = w4 := ⟨_, rfl⟩
              have hb4 : Below w3.heap.size w3 w4 := by rw [← hw4]; exact (Below.refl _ _).alloc (Nat.le_refl _) _
              have hn4 : Blk w4 w3.heap.size 67 (oa oo (.slice Y p d)) := by rw [← hw4]; exact Blk.new _ _ _ rfl
              have hD4 := hD.below hb4
              have hB4 := below_step hB3 hb4 (Nat.le_refl _)
              obtain ⟨y0, y1, y2, y3⟩ := k4 hn4
              clear hoo hd c0 c1 c2 c3 c4 c5 c6 c7 hb3 hb4 hD
              go_wp2_with fail
              refine (Blo.rrange_ w4 oo Y p d hD4).mono ?_
              rintro e w5 ⟨rfl, hb5⟩
              have hB5 := below_step hB4 hb5 (Nat.le_refl _)
              have hn5 := hn4.keep hb5
              have hD5 := hD4.below hb5
              obtain ⟨z0, z1, z2, z3⟩ := k4 hn5
              have hg5 := (hB5.cell (cell_lt g0)).trans g0
              have hgo := fun k => Blo.rright1_ (w5.drewN k) x0.len oo Y p d hf0 (hD5.below (below_drewN (Below.refl _ _) k))
              clear y0 y1 y2 y3 hn4 hD4 hb5 hgz
              cases hr : oo.right x0.len with
              | false =>
                have hgo1 := Blo.rright1_ w5.drew x0.len oo Y p d hf0 (dat_drew hD5)
                rw [hr] at hgo1
                clear hgo
                go_wp2_with fail
                refine wp_region_noPanic ?_
                refine wp_region_held_drew (S := (fun w' => w'.cell? ⟨b, o + 6, none⟩ = some (.int .i64 x0.len) ∧ w'.cell? ⟨w3.heap.size, 0, none⟩ = some (.int .i64 oo.kind) ∧ w'.cell? ⟨w3.heap.size, 1, none⟩ = some (.int .i64 oo.off) ∧ w'.cell? ⟨w3.heap.size, 2, none⟩ = some (.int .i64 oo.len) ∧ w'.cell? ⟨w3.heap.size, 3, none⟩ = some (.slice Y p d))) (by kernel_rfl) ⟨hg5, z0, z1, z2, z3⟩ (fun _ => ?_)
                refine wpAnyH_take (i := 0) (oi := _) (v := ?_) rfl (by kernel_rfl) (by kernel_rfl) (by kernel_rfl) (fun _ _ _ h => h) (Or.inl ⟨by kernel_rfl, ?_⟩) ⟨hg5, z0, z1, z2, z3⟩ ?_
                rotate_left
                · (rintro w ⟨s0, s1, s2, s3, s4⟩; go_simp; (first | done | rfl))
                try simp only [Act.put, List.getElem_toArray, List.getElem_cons_zero, List.getElem_cons_succ, List.setIfInBounds_toArray, List.set_cons_zero, List.set_cons_succ]
                refine wpAnyH_take (i := 1) (oi := _) (v := ?_) rfl (by kernel_rfl) (by kernel_rfl) (by kernel_rfl) (fun _ _ _ h => h) (Or.inl ⟨by kernel_rfl, ?_⟩) ⟨hg5, z0, z1, z2, z3⟩ ?_
                rotate_left
                · (rintro w ⟨s0, s1, s2, s3, s4⟩; go_simp; (first | done | rfl))
                try simp only [Act.put, List.getElem_toArray, List.getElem_cons_zero, List.getElem_cons_succ, List.setIfInBounds_toArray, List.set_cons_zero, List.set_cons_succ]
                refine wpAnyH_take (i := 2) (oi := _) (v := ?_) rfl (by kernel_rfl) (by kernel_rfl) (by kernel_rfl) (fun _ _ _ h => h) (Or.inl ⟨by kernel_rfl, ?_⟩) ⟨hg5, z0, z1, z2, z3⟩ ?_
                rotate_left
                · (rintro w ⟨s0, s1, s2, s3, s4⟩; go_simp; (first | done | rfl))
                try simp only [Act.put, List.getElem_toArray, List.getElem_cons_zero, List.getElem_cons_succ, List.setIfInBounds_toArray, List.set_cons_zero, List.set_cons_succ]
                refine wpAnyH_take (i := 3) (oi := _) (v := ?_) rfl (by kernel_rfl) (by kernel_rfl) (by kernel_rfl) (fun _ _ _ h => h) (Or.inl ⟨by kernel_rfl, ?_⟩) ⟨hg5, z0, z1, z2, z3⟩ ?_
                rotate_left
                · (rintro w ⟨s0, s1, s2, s3, s4⟩; go_simp; (first | done | rfl))
                try simp only [Act.put, List.getElem_toArray, List.getElem_cons_zero, List.getElem_cons_succ, List.setIfInBounds_toArray, List.set_cons_zero, List.set_cons_succ]
                refine wpAnyH_take (i := 4) (oi := _) (v := ?_) rfl (by kernel_rfl) (by kernel_rfl) (by kernel_rfl) (fun _ _ _ h => h) (Or.inl ⟨by kernel_rfl, ?_⟩) ⟨hg5, z0, z1, z2, z3⟩ ?_
                rotate_left
                · (rintro w ⟨s0, s1, s2, s3, s4⟩; go_simp; (first | done | rfl))
                try simp only [Act.put, List.getElem_toArray, List.getElem_cons_zero, List.getElem_cons_succ, List.setIfInBounds_toArray, List.set_cons_zero, List.set_cons_succ]
                refine wpAnyH_ready (rs := [5]) (by kernel_rfl) (by simp) (AllReadyH.cons (o := _) rfl (fun K hK => ?_) AllReadyH.nil)
                rw [if_pos (by kernel_rfl)]
                refine wp_fn 28 _ _ rfl _ rfl enters_RRight hgo1 ?_
                rintro e w6 ⟨rfl, hb6⟩
                refine ⟨_, rfl, ?_⟩
                refine hK.out _ _ (keep5 (Blo.below_undrew hb6) hg5 z0 z1 z2 z3) (fun _ => ?_)
                clear hK K
                try simp only [Act.put, List.getElem_toArray, List.getElem_cons_zero, List.getElem_cons_succ, List.setIfInBounds_toArray, List.set_cons_zero, List.set_cons_succ]
                refine wpAnyH_take (i := 6) (oi := _) (v := ?_) rfl (by kernel_rfl) (by kernel_rfl) (by kernel_rfl) (fun _ _ _ h => h) (Or.inl ⟨by kernel_rfl, ?_⟩) (keep5 (Blo.below_undrew hb6) hg5 z0 z1 z2 z3) ?_
                rotate_left
                · (rintro w ⟨s0, s1, s2, s3, s4⟩; go_simp; (first | done | rfl))
                try simp only [Act.put, List.getElem_toArray, List.getElem_cons_zero, List.getElem_cons_succ, List.setIfInBounds_toArray, List.set_cons_zero, List.set_cons_succ]
                refine wpAnyH_take (i := 7) (oi := _) (v := ?_) rfl (by kernel_rfl) (by kernel_rfl) (by kernel_rfl) (fun _ _ _ h => h) (Or.inl ⟨by kernel_rfl, ?_⟩) (keep5 (Blo.below_undrew hb6) hg5 z0 z1 z2 z3) ?_
                rotate_left
                · (rintro w ⟨s0, s1, s2, s3, s4⟩; go_simp; (first | done | rfl))
                try simp only [Act.put, List.getElem_toArray, List.getElem_cons_zero, List.getElem_cons_succ, List.setIfInBounds_toArray, List.set_cons_zero, List.set_cons_succ]
                refine wpAnyH_take (i := 8) (oi := _) (v := undef) rfl (by kernel_rfl) (by kernel_rfl) (by kernel_rfl) (fun _ _ _ h => h) (Or.inr ⟨by kernel_rfl, rfl⟩) (keep5 (Blo.below_undrew hb6) hg5 z0 z1 z2 z3) ?_
                try simp only [Act.put, List.getElem_toArray, List.getElem_cons_zero, List.getElem_cons_succ, List.setIfInBounds_toArray, List.set_cons_zero, List.set_cons_succ]
                refine wpAnyH_take (i := 9) (oi := _) (v := undef) rfl (by kernel_rfl) (by kernel_rfl) (by kernel_rfl) (fun _ _ _ h => h) (Or.inr ⟨by kernel_rfl, rfl⟩) (keep5 (Blo.below_undrew hb6) hg5 z0 z1 z2 z3) ?_
                try simp only [Act.put, List.getElem_toArray, List.getElem_cons_zero, List.getElem_cons_succ, List.setIfInBounds_toArray, List.set_cons_zero, List.set_cons_succ]
                refine wpAnyH_take (i := 10) (oi := _) (v := undef) rfl (by kernel_rfl) (by kernel_rfl) (by kernel_rfl) (fun _ _ _ h => h) (Or.inr ⟨by kernel_rfl, rfl⟩) (keep5 (Blo.below_undrew hb6) hg5 z0 z1 z2 z3) ?_
                try simp only [Act.put, List.getElem_toArray, List.getElem_cons_zero, List.getElem_cons_succ, List.setIfInBounds_toArray, List.set_cons_zero, List.set_cons_succ]
                refine wpAnyH_take (i := 11) (oi := _) (v := ?_) rfl (by kernel_rfl) (by kernel_rfl) (by kernel_rfl) (fun _ _ _ h => h) (Or.inl ⟨by kernel_rfl, ?_⟩) (keep5 (Blo.below_undrew hb6) hg5 z0 z1 z2 z3) ?_
                rotate_left
                · (rintro w ⟨s0, s1, s2, s3, s4⟩; go_simp; (first | done | rfl))
                try simp only [Act.put, List.getElem_toArray, List.getElem_cons_zero, List.getElem_cons_succ, List.setIfInBounds_toArray, List.set_cons_zero, List.set_cons_succ]
                refine wpAnyH_done (by kernel_rfl) ?_ _
                refine NoPanic.normal ?_
                have hB6 : Below w.heap.size w w6 := below_step hB5 (Blo.below_undrew hb6) (Nat.le_refl _)
                clear hb6 hgo1 hr
                go_wp2
                go_ret
                exact ⟨5, rfl, fun e => (by cases e), hB6⟩
              | true =>
                rw [hr] at hgo
                obtain ⟨r0', r1', r2', -⟩ := Str.right_rng hr
                have hwr : IntKind.i64.wrap (oo.from_ + oo.cnt) = oo.from_ + oo.cnt := by rw [IntKind.wrap_i64]; omega
                by_cases hen : oo.from_ < en
                · go_wp2_with fail
                  go_region_held3 (fun w' => w'.cell? ⟨b, o + 6, none⟩ = some (.int .i64 x0.len) ∧ w'.cell? ⟨w3.heap.size, 0, none⟩ = some (.int .i64 oo.kind) ∧ w'.cell? ⟨w3.heap.size, 1, none⟩ = some (.int .i64 oo.off) ∧ w'.cell? ⟨w3.heap.size, 2, none⟩ = some (.int .i64 oo.len) ∧ w'.cell? ⟨w3.heap.size, 3, none⟩ = some (.slice Y p d))
                  (first | go_keep | exact ⟨hg5, z0, z1, z2, z3⟩ | exact keep5 (Blo.below_ofDrewN hb6) hg5 z0 z1 z2 z3)
                  (first
                    | (go_at_call 28; refine (hgo _).mono ?_; rintro e w6 ⟨rfl, hb6⟩))
                  have hB6 : Below w.heap.size w w6 := below_step hB5 (Blo.below_ofDrewN hb6) (Nat.le_refl _)
                  clear hb6 hgo hr
                  go_wp2
                  go_ret
                  exact ⟨5, rfl, fun e => (by cases e), hB6⟩
                · have HR3 := Lib.hid (show risQ x0.len (oo.from_ + oo.cnt) (List.drop (j + 1) (midL l)) = risQ x0.len 0 (midL l) by rw [← HR2.out, hr, decide_eq_true (show en ≤ oo.from_ by omega)]; rfl)
                  go_wp2_with fail
                  go_region_held3 (fun w' => w'.cell? ⟨b, o + 6, none⟩ = some (.int .i64 x0.len) ∧ w'.cell? ⟨w3.heap.size, 0, none⟩ = some (.int .i64 oo.kind) ∧ w'.cell? ⟨w3.heap.size, 1, none⟩ = some (.int .i64 oo.off) ∧ w'.cell? ⟨w3.heap.size, 2, none⟩ = some (.int .i64 oo.len) ∧ w'.cell? ⟨w3.heap.size, 3, none⟩ = some (.slice Y p d))
                  (first | go_keep | exact ⟨hg5, z0, z1, z2, z3⟩ | exact keep5 (Blo.below_ofDrewN hb6) hg5 z0 z1 z2 z3)
                  (first
                    | (go_at_call 28; refine (hgo _).mono ?_; rintro e w6 ⟨rfl, hb6⟩))
                  have hB6 : Below w.heap.size w w6 := below_step hB5 (Blo.below_ofDrewN hb6) (Nat.le_refl _)
                  clear hb6 hgo hr HR2
                  go_wp2
                  go_roundw
                  case rel => exact ⟨j + 1, oo.from_ + oo.cnt, by omega, by rw [show j + 1 + 1 = i2 + 1 by rw [← Hi2.out]]; go_num, rfl, ⟨by omega, by omega⟩, HR3, hB6⟩
                  case measure => simp [intOf]; omega
            · have hin2 : (q : Int) + 1 ≤ (i2 : Int) := by omega
              have HRIS := Lib.hid (show risQ (l.getD 0 r0).len 0 (midL l) = true by rw [HX0.out, ← HR.out, List.drop_of_length_le (by have := midL_len Hl.out; omega)]; rfl)
              have hgq := (hbz.cell (cell_lt gq)).trans gq
              clear HR hi2 hg0 hgz g0 gq h h1
              by_cases hxe : xq.len = (q : Int)
              · have hxb : (xq.len != (q : Int)) = false := by simpa using hxe
                clear hxe
                go_wp2
                go_ret
                exact ⟨0, rfl, fun _ => ⟨HMAY.out, HLEN.out, HRIS.out⟩, hbz⟩
              · have hxb : (xq.len != (q : Int)) = true := by simpa using hxe
                clear hxe
                go_wp2
                go_ret
                exact ⟨3, rfl, fun e => (by cases e), hbz⟩
end
end Lan
end Go.Proofs.Ytganoklclnbjkaa
