/- XDelE, XDelF. -/
import Derived.Test.YtfcfffilfmbpeaaDelB
import Derived.Test.YtfcfffilfmbpeaaRng
import Derived.Test.YtfcfffilfmbpeaaEmpW
import Derived.Shelf.Abstract
import Derived.Shelf.RegionOpen
import Derived.WalkKit
import Derived.OwnWalkIn
import Derived.TacticsInMore
import Derived.LoopNIn
import Derived.LoopIn
import Derived.Test.YtfcfffilfmbpeaaBloW
set_option linter.all false
namespace Go.Proofs.Ytfcfffilfmbpeaa
open Go.RowKit Go.Shelf
attribute [local go_sem] Oper.semAt_some

/-- Cells stay as they were, but for the blocks T. -/
structure Ko (T : Nat → Prop) (W W' : World) : Prop where
  size : W.heap.size ≤ W'.heap.size
  same : ∀ k o, ¬ T k → W.heap[k]? = some o → o.isCells = true → W'.heap[k]? = some o
theorem Ko.refl (T : Nat → Prop) (W : World) : Ko T W W := ⟨Nat.le_refl _, fun _ _ _ h _ => h⟩
theorem Ko.trans {T : Nat → Prop} {A B C : World} (h : Ko T A B) (k : Ko T B C) : Ko T A C := ⟨Nat.le_trans h.size k.size, fun i o hT ho hc => k.same i o hT (h.same i o hT ho hc) hc⟩
theorem Ko.of_grown {T : Nat → Prop} {W W' : World} {row : Option Nat} (hg : W.grownBy W' row) (hr : ∀ r, row = some r → T r ∨ ∃ o, W.heap[r]? = some o ∧ o.isCells = false) : Ko T W W' := ⟨hg.size, fun k o hT hk hc => by
  refine (hg.block k (Array.getElem?_eq_some_iff.1 hk).1 fun e => ?_).trans hk
  rcases hr k e.symm with h | ⟨u, hu, h⟩
  · exact hT h
  · rw [hu] at hk
    cases hk
    rw [h] at hc
    cases hc⟩
theorem Ko.putObj {T : Nat → Prop} (W : World) (l : Nat) (o o' : Obj) (h : W.heap[l]? = some o) (ho : o.isCells = false) : Ko T W (W.putObj l o') :=
  Ko.of_grown (grownBy_putObj' W l o') fun r e => by cases e; exact .inr ⟨o, h, ho⟩
theorem Ko.alloc {T : Nat → Prop} (W : World) (o : Obj) : Ko T W (W.alloc o) := Ko.of_grown (World.grownBy_alloc W o none) fun r e => by cases e
theorem Ko.drew {T : Nat → Prop} (W : World) : Ko T W W.drew := ⟨Nat.le_refl _, fun _ _ _ h _ => h⟩
theorem Ko.drewN {T : Nat → Prop} (W : World) (k : Nat) : Ko T W (W.drewN k) := ⟨Nat.le_refl _, fun _ _ _ h _ => h⟩
theorem Ko.setCell {T : Nat → Prop} {b : Nat} (W : World) (j : Nat) (u : Value) (h : T b) : Ko T W (W.setCell ⟨b, j, none⟩ u) := Ko.of_grown (grown_setCell W ⟨b, j, none⟩ u) fun r e => by cases e; exact .inl h
theorem cell_is {w : World} {p : Addr} {u : Value} (h : w.cell? p = some u) : ∃ o, w.heap[p.block]? = some o ∧ o.isCells = true := by
  unfold World.cell? at h
  split at h
  · rename_i hb; exact ⟨_, hb, rfl⟩
  · cases h
theorem Ko.cell {T : Nat → Prop} {W W' : World} (h : Ko T W W') {p : Addr} {u : Value} (hp : ¬ T p.block) (hc : W.cell? p = some u) : W'.cell? p = some u := by
  obtain ⟨o, ho, hi⟩ := cell_is hc
  rw [World.cell?_of_block ((h.same _ o hp ho hi).trans ho.symm)]
  exact hc
theorem Ko.es {T : Nat → Prop} {W W' : World} (h : Ko T W W') {A : Option Addr} {n : Nat} {l : List Ext} (hA : ∀ a, A = some a → 0 < n → ¬ T a.block) (he : Es W A n l) : Es W' A n l :=
  ⟨⟨he.rd.1, fun j u hu => by
    obtain ⟨b, o, e, hc⟩ := he.rd.2 j u hu
    have hn : 0 < n := by
      have h1 := (List.getElem?_eq_some_iff.1 hu).1
      rw [evs_len, ← he.len] at h1
      omega
    exact ⟨b, o, e, h.cell (p := ⟨b, o + j, none⟩) (hA ⟨b, o, none⟩ e hn) hc⟩⟩, he.fit⟩
theorem es_lt {w : World} {A : Option Addr} {n : Nat} {l : List Ext} (h : Es w A n l) : ∀ a, A = some a → 0 < n → a.block < w.heap.size := fun a e hn => by
  obtain ⟨b, o, e', x, hx, fx, c0, _⟩ := h.at_ hn
  rw [e] at e'
  cases e'
  exact cell_lt c0

set_option maxRecDepth 100000 in
set_option maxHeartbeats 1000000 in
theorem each_ (w : World) (A : Option Addr) (n c : Nat) : Calls Try.prog 62 #[.slice A n c] w fun e w' =>
    e = .returned (.func (.func 76) #[] #[.pointer (some ⟨w.heap.size, 0, none⟩)]) ∧ w' = w.alloc (.cells #[.slice A n c] 90) := by
  go_enter Try.func62, Try.ntmps62
  go_wp2
  go_ret
  exact ⟨rfl, rfl⟩

abbrev bkV {N : Nat} (x : Bk N) : Array Value := #[.agg #[.int .i64 x.1.1, .int .i64 x.1.2.1, .int .i64 x.1.2.2]]
/-- What is asked of a round that each calls. -/
theorem abides_alloc {α : Type} {B : Nat} {J : α → World → Prop} (h : AbidesFrom B J) (s : α) (w : World) (o : Obj) (hj : J s w) : J s (w.alloc o) := h s w (w.alloc o) none hj (World.grownBy_alloc w o none) (fun r e => by cases e)
set_option maxRecDepth 100000 in
set_option maxHeartbeats 2000000 in
theorem each1_ (m l0 Bn N : Nat) (T : Nat → Prop) (A : Option Addr) (n c : Nat) (l : List Ext) (J Jx : List (Bk N) → World → Prop) (W : World) (hml : ∀ x ∈ l, x.may = true) (hend : endsB l (N : Int)) (hn0 : n ≤ 9223372036854775807)
    (hT : ∀ a, A = some a → 0 < n → ¬ T a.block) (hTn : ∀ k, W.heap.size ≤ k → ¬ T k) (hJ : AbidesFrom W.heap.size J)
    (hY : ∀ pre x W1, J pre W1 → pre.length < (bkL l).length → YieldAt Fence.wide (m - 1) Try.prog l0 (bkV x) W1 fun e W' =>
      (e = .returned (.bool true) ∧ J (pre ++ [x]) W' ∧ Ko T W1 W') ∨ (e = .returned (.bool false) ∧ Jx (pre ++ [x]) W'))
    (hBn : W.cell? ⟨Bn, 0, none⟩ = some (.slice A n c)) (hes : Es W A n l) (h0 : J [] W) :
    CallsIn Fence.wide m Try.prog 76 #[.func (.yield l0) #[] #[], .pointer (some ⟨Bn, 0, none⟩)] W fun e W' => (∃ v, e = .returned v) ∧
      ((∃ ys, bls ys = bkL l ∧ J ys W') ∨ (∃ pre, bls pre <+: bkL l ∧ Jx pre W')) := by
  have hnl := hes.len
  have Hnl := Lib.hid hnl
  clear hnl
  refine callsIn_of_wp Try.func76 rfl trivial ?_ rfl
  simp only [Try.ntmps76, List.size_toArray, List.length_cons, List.length_nil, Nat.reduceAdd, Nat.reduceSub, Array.replicate_succ, Array.replicate_zero, List.push_toArray, List.append_toArray, List.nil_append, List.cons_append]
  gi_wp2
  gi_loopw [8] (fun kv wr => ∃ (k : Nat) (pre : List (Bk N)), k ≤ n ∧ kv = .int .i64 (k : Int) ∧ bls pre = bkL (l.take k) ∧ J pre wr ∧ Es wr A n l ∧ W.heap.size ≤ wr.heap.size) (fun kv _ => n - (intOf kv).toNat)
  case atStart => exact ⟨0, [], Nat.zero_le _, rfl, rfl, h0, hes, Nat.le_refl _⟩
  case round =>
    obtain ⟨k, pre, hk, rfl, hpre, hJr, her, hsz⟩ := hrel
    have Hp := Lib.hid hpre
    clear hpre
    by_cases hlt : k < n
    · have hil : (k : Int) < (n : Int) := by omega
      have hk0 : (0 : Int) ≤ (k : Int) := by omega
      obtain ⟨b, o, rfl, x, hx, fx, c0, c1, c2, c3⟩ := her.at_ hlt
      have hxm := hml x (List.mem_of_getElem? hx)
      have hxe := hend x (List.mem_of_getElem? hx)
      have hxl := may_len hxm
      obtain ⟨q, hq⟩ := Int.eq_ofNat_of_zero_le (show 0 ≤ x.len by omega)
      have hqn : x.len.toNat = q := by omega
      have hlt2 := fun i (hi : i < q) => bkL_lt hx (i := i) (by omega)
      have Hs := Lib.hid (bkL_take hx)
      have Hq := Lib.hid hqn
      have Hx := Lib.hid hq
      rw [hq] at c1
      clear hqn hq hBn hes h0
      obtain ⟨g, hg⟩ : ∃ g, wr.heap.size = g := ⟨_, rfl⟩
      have Hg := Lib.hid hg
      have hT1 : ¬ T g := hTn _ (by omega)
      have hJ1 := abides_alloc hJ _ wr (.cells #[.int .i64 x.off, .int .i64 (q : Int), .int .i64 x.phys, .int .i64 x.birth] 77) hJr
      have he1 := her.alloc (.cells #[.int .i64 x.off, .int .i64 (q : Int), .int .i64 x.phys, .int .i64 x.birth] 77)
      have hb1 : Blk (wr.alloc (.cells #[.int .i64 x.off, .int .i64 (q : Int), .int .i64 x.phys, .int .i64 x.birth] 77)) wr.heap.size 77 #[.int .i64 x.off, .int .i64 (q : Int), .int .i64 x.phys, .int .i64 x.birth] := Blk.new wr _ _ rfl
      rw [hg] at hb1
      have d0 := hb1.cell (j := 0) (u := .int .i64 x.off) rfl
      have d1 := hb1.cell (j := 1) (u := .int .i64 (q : Int)) rfl
      have d2 := hb1.cell (j := 2) (u := .int .i64 x.phys) rfl
      have d3 := hb1.cell (j := 3) (u := .int .i64 x.birth) rfl
      clear hb1
      gi_wp2
      gi_loopw [14] (fun iv wx => ∃ (i : Nat) (pre2 : List (Bk N)), i ≤ q ∧ iv = .int .i64 (i : Int) ∧ bls pre2 = bkL (l.take k) ++ bkTo x i ∧ J pre2 wx ∧ Es wx (some ⟨b, o, none⟩) n l ∧ W.heap.size ≤ wx.heap.size ∧
          wx.cell? ⟨g, 0, none⟩ = some (.int .i64 x.off) ∧ wx.cell? ⟨g, 2, none⟩ = some (.int .i64 x.phys) ∧ wx.cell? ⟨g, 3, none⟩ = some (.int .i64 x.birth)) (fun iv _ => q - (intOf iv).toNat)
      case atStart => exact ⟨0, pre, Nat.zero_le _, rfl, by rw [Hp.out, bkTo_zero, List.append_nil], hJ1, he1, by simp; omega, d0, d2, d3⟩
      case round =>
        obtain ⟨i, pre2, hi, rfl, hpre2, hJx, hex, hsx, e0, e2, e3⟩ := hrel
        have Hp2 := Lib.hid hpre2
        have Hpl := Lib.hid (show pre2.length = (bkL (l.take k) ++ bkTo x i).length by rw [← hpre2, List.length_map])
        clear hpre2 hJ1 he1 d0 d1 d2 d3 hJr her c0 c1 c2 c3
        by_cases hiq : i < q
        · have hil2 : (i : Int) < (q : Int) := by omega
          have hi0 : (0 : Int) ≤ (i : Int) := by omega
          have hw1 : IntKind.i64.wrap (x.off + (i : Int)) = x.off + (i : Int) := by rw [IntKind.wrap_i64]; have := Hx.out; omega
          have hw2 : IntKind.i64.wrap (x.phys + (i : Int)) = x.phys + (i : Int) := by rw [IntKind.wrap_i64]; have := Hx.out; omega
          have hok := bk_ok hxm hxe (i := i) (by rw [Hx.out]; omega)
          obtain ⟨fn, tmps, assign, body, hy, hR⟩ := hY pre2 ⟨(x.off + (i : Int), x.phys + (i : Int), x.birth), hok⟩ _ hJx (by rw [Hpl.out]; exact hlt2 i hiq)
          dsimp only [bkV] at hy
          gi_wp2
          refine ⟨(fun h => by cases h), hR.mono ?_⟩
          rintro e W3 (⟨rfl, hJ3, hk3⟩ | ⟨rfl, hJx3⟩)
          · have hex3 := hk3.es hT hex
            have f0 := hk3.cell (p := ⟨g, 0, none⟩) hT1 e0
            have f2 := hk3.cell (p := ⟨g, 2, none⟩) hT1 e2
            have f3 := hk3.cell (p := ⟨g, 3, none⟩) hT1 e3
            have hs3 : W.heap.size ≤ W3.heap.size := Nat.le_trans hsx hk3.size
            gi_wp2
            go_roundw
            case rel => exact ⟨i + 1, pre2 ++ [⟨(x.off + (i : Int), x.phys + (i : Int), x.birth), hok⟩], by omega, by go_num, by rw [bls_snoc, Hp2.out, bkTo_succ, List.append_assoc], hJ3, hex3, hs3, f0, f2, f3⟩
            case measure => simp [intOf]; omega
          · gi_wp2
            refine bodyPost_ret (results_none rfl _ _ _) rfl ?_
            exact ⟨⟨_, rfl⟩, .inr ⟨pre2 ++ [⟨(x.off + (i : Int), x.phys + (i : Int), x.birth), hok⟩], by rw [bls_snoc, Hp2.out, List.append_assoc, ← bkTo_succ]; exact bkL_part hx (by rw [Hq.out]; omega), hJx3⟩⟩
        · have Hje := Lib.hid (show i = q by omega)
          have hqi : (q : Int) ≤ (i : Int) := by omega
          gi_wp2
          go_roundw
          case rel => exact ⟨k + 1, pre2, by omega, by go_num, by rw [Hp2.out, Hs.out, Hq.out, ← Hje.out], hJx, hex, hsx⟩
          case measure => simp [intOf]; omega
    · gi_wp2
      go_end0
      exact ⟨⟨_, rfl⟩, .inl ⟨pre, by rw [Hp.out, List.take_of_length_le (by have := Hnl.out; omega)], hJr⟩⟩
/-- **each, as what is ranged over**: T are the blocks that the body may turn. -/
theorem each_stops (m N : Nat) (T : Nat → Prop) (A : Option Addr) (n c : Nat) (l : List Ext) (w : World) (Bn : Nat) (hml : ∀ x ∈ l, x.may = true) (hend : endsB l (N : Int)) (hn0 : n ≤ 9223372036854775807)
    (hT : ∀ a, A = some a → 0 < n → ¬ T a.block) (hTn : ∀ k, w.heap.size ≤ k → ¬ T k) (hBn : w.cell? ⟨Bn, 0, none⟩ = some (.slice A n c)) (hes : Es w A n l) :
    SeqStopsK Fence.wide m Try.prog 76 #[.pointer (some ⟨Bn, 0, none⟩)] (bkV (N := N)) (Ko T) (fun xs => bls xs = bkL l) (fun pre => bls pre <+: bkL l) (bkL l).length w := fun l0 J Jx W hW hJ _ hY h0 =>
  each1_ m l0 Bn N T A n c l J Jx W hml hend hn0 hT (fun k hk => hTn k (Nat.le_trans hW.size hk)) hJ hY ((hW.cell (p := ⟨Bn, 0, none⟩) (cell_lt hBn)).trans hBn) (hes.below hW) h0
end Go.Proofs.Ytfcfffilfmbpeaa

set_option linter.all false
namespace Go.Proofs.Ytfcfffilfmbpeaa
open Go.RowKit Go.Shelf
attribute [local go_sem] Oper.semAt_some

/-- Where the last block of a list ends. -/
def endL (l : List Ext) : Int := match l.getLast? with | some x => x.off + x.len | none => 0
theorem endL_nil : endL [] = 0 := rfl
theorem endL_some {l : List Ext} {k : Nat} {x : Ext} (hx : l[k]? = some x) (hk : k + 1 = l.length) : endL l = x.off + x.len := by
  unfold endL
  rw [List.getLast?_eq_getElem?, show l.length - 1 = k by omega, hx]
theorem endL_ends : ∀ {l : List Ext} {lo : Int} (_ : listFrom lo l = true), endsB l (endL l)
  | [], _, _ => by simp [endsB]
  | [x], lo, h => by simp [endsB, endL]
  | x :: y :: l, lo, h => by
    rw [listFrom_cons] at h
    have ih := endL_ends h.2.2
    have e : endL (x :: y :: l) = endL (y :: l) := by simp [endL]
    rw [e]
    intro z hz
    rcases List.mem_cons.1 hz with rfl | hz
    · have h2 := listFrom_cons.1 h.2.2
      have h3 := may_len h2.1
      have := ih y (by simp)
      omega
    · exact ih z hz
section
variable (w : World)
set_option maxRecDepth 100000 in
set_option maxHeartbeats 1000000 in
theorem end_ (A : Option Addr) (n c : Nat) (l : List Ext) (h : Es w A n l) (hn : n ≤ 9223372036854775807) (hml : mays l) :
    Calls Try.prog 61 #[.slice A n c] w fun e w' => e = .returned (.int .i64 (endL l)) ∧ Below w.heap.size w w' := by
  have Hl := Lib.hid h.len
  by_cases h0 : n = 0
  · subst h0
    have He := Lib.hid (show endL l = 0 by rw [List.length_eq_zero_iff.1 Hl.out.symm]; rfl)
    go_enter Try.func61, Try.ntmps61
    go_wp2
    go_ret
    rw [He.out]
    exact ⟨rfl, Below.refl _ _⟩
  · obtain ⟨b, o, rfl, x, hx, fx, c0, c1, c2, c3⟩ := h.at_ (k := n - 1) (by omega)
    have hxl := may_len (hml x (List.mem_of_getElem? hx))
    have He := Lib.hid (endL_some hx (by have := Hl.out; omega))
    obtain ⟨k, hk⟩ : ∃ k, n = k + 1 := ⟨n - 1, by omega⟩
    subst hk
    simp only [Nat.add_sub_cancel] at c0 c1 c2 c3
    have hnz : ((((k + 1 : Nat) : Int) == 0)) = false := by simp; omega
    have hw1 : IntKind.i64.wrap ((k : Int) + 1 - 1) = (k : Int) := by rw [IntKind.wrap_i64]; omega
    have hw2 : IntKind.i64.wrap (((k + 1 : Nat) : Int) - 1) = (k : Int) := by rw [IntKind.wrap_i64]; omega
    have hk0 : (0 : Int) ≤ (k : Int) := by omega
    have hk1 : (k : Int) < ((k + 1 : Nat) : Int) := by omega
    have hw3 : IntKind.i64.wrap (x.off + x.len) = x.off + x.len := by rw [IntKind.wrap_i64]; omega
    have Hxl := Lib.hid hxl
    clear hx hxl h h0
    go_enter Try.func61, Try.ntmps61
    go_wp2
    go_ret
    rw [He.out]
    refine ⟨?_, (Below.refl _ _).alloc (Nat.le_refl _) _⟩
    first | rfl | rw [hw3]
end

/-! ### View -/
theorem show_low {u : List Nat} (h : ∀ z ∈ u, z < 18446744073709551616) (l : List Ext) (i : Int) : showF l u i < 18446744073709551616 := by
  unfold showF
  cases atL l i with
  | none => exact Nat.zero_lt_succ _
  | some v =>
    show unitOf u v.1 < _
    unfold unitOf
    split
    · unfold List.getD
      cases hq : u[v.1.toNat]? with
      | none => simp
      | some x => exact h x (List.mem_of_getElem? hq)
    · simp
def vwB (l : List Ext) (z : Int) : Bool := rightB l && decide (0 ≤ z) && decide (z ≤ 1024) && decide (endL l ≤ z)
def vwE (l : List Ext) (z : Int) : Int := if vwB l z then 0 else 1
def vwL (l : List Ext) (z : Int) (u : List Nat) : List Nat := if vwB l z then Blo.vol z.toNat (showF l u) else []
theorem view_no {w w' : World} {e : Ending} {l : List Ext} {z : Int} {u : List Nat} (h : vwB l z = false) (he : e = .returned (.tuple #[.slice none 0 0, .int .i64 1])) (hb : Below w.heap.size w w') : Blo.AnsN w w' e (vwE l z) (vwL l z u) := by
  unfold vwE vwL
  rw [h]
  exact ⟨none, 0, 0, he, Blo.GotN.no _ _, hb⟩
/-- The row that View makes. -/
abbrev vwA (N : Nat) (u : List Nat) (xs : List Bl) : Array Value := (nvs (Blo.vol N (laid (unitG u) (fun _ => 0) xs))).toArray
theorem vwA_set {N : Nat} {u : List Nat} {xs : List Bl} {p q x : Nat} {r : Int} (hq : q < u.length) (hx : u[q] = x) : (vwA N u xs).setIfInBounds p (.int .u64 (x : Int)) = vwA N u (xs ++ [((p : Int), (q : Int), r)]) := by
  refine Array.toList_inj.1 ?_
  rw [Array.toList_setIfInBounds, Blo.nvs_set]
  refine congrArg nvs (Blo.vol_set ?_)
  rw [laid_snoc]
  funext i
  unfold setF
  have : unitOf u (q : Int) = x := by
    unfold unitOf
    rw [if_pos (by omega), Int.toNat_natCast, ← hx]
    simp [hq]
  by_cases e : i = (p : Int)
  · rw [if_pos e, if_pos e]; unfold unitG; rw [if_pos (by simp; omega)]; exact this
  · rw [if_neg e, if_neg e]
theorem vwA_skip {N : Nat} {u : List Nat} {xs : List Bl} {p q : Nat} {r : Int} (hq : u.length ≤ q) : vwA N u (xs ++ [((p : Int), (q : Int), r)]) = vwA N u xs := by
  unfold vwA
  rw [laid_snoc]
  refine congrArg (fun f => (nvs (Blo.vol N f)).toArray) ?_
  funext i
  unfold setF
  by_cases e : i = (p : Int)
  · rw [if_pos e]; unfold unitG; rw [if_neg (by simp; omega)]
  · rw [if_neg e]
/-- Between two rounds of View's loop. -/
structure VwI (w : World) (g N : Nat) (U : Option Addr) (m d : Nat) (u : List Nat) (xs : List Bl) (W : World) : Prop where
  row : Blk W g 48 (vwA N u xs)
  var : Blk W (g + 1) 29 #[.slice (some ⟨g, 0, none⟩) N N]
  box : Blk W w.heap.size 29 #[.slice U m d]
  units : Ns W U m u
  below : Below w.heap.size w W
  size : g + 3 ≤ W.heap.size
theorem ns_lt {w : World} {A : Option Addr} {n : Nat} {l : List Nat} (h : Ns w A n l) : ∀ a, A = some a → 0 < n → a.block < w.heap.size := fun a e hn => by
  obtain ⟨b, o, e', hx, hc, _⟩ := h.at_ hn
  rw [e] at e'
  cases e'
  exact cell_lt hc
theorem Ns.sub {w w' : World} {row : Option Nat} {A : Option Addr} {n : Nat} {l : List Nat} (h : Ns w A n l) (hg : w.grownBy w' row) (hne : ∀ a, A = some a → 0 < n → some a.block ≠ row) : Ns w' A n l := by
  by_cases hn : 0 < n
  · exact h.grown hg fun a ha => hne a ha hn
  · have h0 : n = 0 := by omega
    subst h0
    have : l = [] := List.length_eq_zero_iff.1 h.len.symm
    subst this
    exact Ns.nil
theorem VwI.grown {w : World} {g N : Nat} {U : Option Addr} {m d : Nat} {u : List Nat} {xs : List Bl} {W W' : World} {row : Option Nat} (h : VwI w g N U m d u xs W) (hw : w.heap.size < g) (hu : ∀ a, U = some a → 0 < m → a.block < g) (hg : W.grownBy W' row) (hr : ∀ r, row = some r → g + 2 ≤ r) : VwI w g N U m d u xs W' :=
  ⟨h.row.grown hg (fun e => by have := hr _ e.symm; omega), h.var.grown hg (fun e => by have := hr _ e.symm; omega), h.box.grown hg (fun e => by have := hr _ e.symm; omega),
   Ns.sub h.units hg (fun a ha hn e => by have := hr _ e.symm; have := hu a ha hn; omega), h.below.grown hg h.below.size (fun r e => by have := hr _ e; omega), Nat.le_trans h.size hg.size⟩
theorem VwI.drew {w : World} {g N : Nat} {U : Option Addr} {m d : Nat} {u : List Nat} {xs : List Bl} {W : World} (h : VwI w g N U m d u xs W) : VwI w g N U m d u xs W.drew :=
  ⟨h.row, h.var, h.box, h.units, ⟨h.below.os, h.below.tape, h.below.output, h.below.size, h.below.block⟩, h.size⟩
section
variable (w : World)
set_option maxRecDepth 100000 in
set_option maxHeartbeats 2000000 in
theorem view_ (A : Option Addr) (n c : Nat) (l : List Ext) (z : Int) (U : Option Addr) (m d : Nat) (u : List Nat) (h : Es w A n l) (hn : n ≤ 9223372036854775807) (hz : I64 z) (hu : Ns w U m u) (hm : m ≤ 9223372036854775807) :
    Calls Try.prog 47 #[.slice A n c, .int .i64 z, .slice U m d] w fun e w' => Blo.AnsN w w' e (vwE l z) (vwL l z u) := by
  unfold I64 at hz
  obtain ⟨i1, hi1, hy0, hy1, hy2⟩ := u64_info
  have Hy := Lib.hid hy2
  clear hy2
  have h1 := h.alloc (.cells #[.slice U m d] 29)
  have hB1 : Below w.heap.size w (w.alloc (.cells #[.slice U m d] 29)) := (Below.refl _ _).alloc (Nat.le_refl _) _
  refine (callsIn_wide (n := 3)).1 (callsIn_of_wp_marks Try.func47 rfl trivial ?_ rfl)
  simp only [Try.ntmps47, List.size_toArray, List.length_cons, List.length_nil, Nat.reduceAdd, Nat.reduceSub, Array.replicate_succ, Array.replicate_zero, List.push_toArray, List.append_toArray, List.nil_append, List.cons_append]
  refine wpIn_wide.2 ?_
  go_wp2_with fail
  refine (right_ _ A n c l h1 hn).mono ?_
  cases hr : rightB l with
  | false =>
    rintro e w2 ⟨rfl, hb2⟩
    go_wp2
    refine marks0 (results_tmp2 rfl _ _ _) (view_no (by simp [vwB, hr]) rfl (below_step hB1 hb2 (Nat.le_refl _)))
  | true =>
    rintro e w2 ⟨rfl, hb2⟩
    have h2 := h1.below hb2
    have hB2 := below_step hB1 hb2 (Nat.le_refl _)
    have hml := mays_right hr
    by_cases hz0 : 0 ≤ z
    · by_cases hz1 : z ≤ 1024
      · go_wp2_with fail
        refine (end_ _ A n c l h2 hn hml).mono ?_
        rintro e w3 ⟨rfl, hb3⟩
        have h3 := h2.below hb3
        have hB3 := below_step hB2 hb3 (Nat.le_refl _)
        by_cases hz2 : endL l ≤ z
        · obtain ⟨N, rfl⟩ : ∃ N : Nat, z = (N : Int) := Int.eq_ofNat_of_zero_le hz0
          have Hend := Lib.hid (show endsB l (N : Int) from fun x hx => by have := endL_ends (right_is.1 hr).1 x hx; omega)
          have hN : N ≤ 1024 := by omega
          have Hok := Lib.hid (show vwB l (N : Int) = true by simp [vwB, hr]; omega)
          obtain ⟨g, hg⟩ : ∃ g, w3.heap.size = g := ⟨_, rfl⟩
          have hgn : w.heap.size < g := by have := hB1.size; have := hb2.size; have := hb3.size; simp at *; omega
          have hub : Below w.heap.size w w3 := hB3
          have hu3 := hu.below hub
          have c5 : Blk w3 w.heap.size 29 #[.slice U m d] := ((Blk.new w 29 #[.slice U m d] rfl).keep hb2).keep hb3
          clear h1 h2 hb2 hb3 hB1 hB2 hub
          go_wp2_with (first
            | (at_make
               refine wpList_make_blk _ rfl _ _ 29 rfl 48 i1 _ 1 8 Try.underlying29 hi1 hy0 hy1 Hy.out .i64 .i64 _ _ N rfl rfl rfl rfl (by omega) (by omega) ?_
               intro w4 hk4 hb4 hs4)
            | (go_at_call 62
               refine (each_ _ A n c).mono ?_
               rintro e w5 ⟨rfl, rfl⟩))
          have Hg := Lib.hid hg
          rw [hg] at hk4 hs4 hb4
          clear hg
          have hug : ∀ a, U = some a → 0 < m → a.block < g := fun a ha hm => by have := ns_lt hu3 a ha hm; have := Hg.out; omega
          have hag : ∀ a, A = some a → 0 < n → ¬ (a.block = g) := fun a ha hm => by have := es_lt h3 a ha hm; have := Hg.out; omega
          have h0 : VwI w g N U m d u [] ((w4.alloc (.cells #[.slice (some ⟨g, 0, none⟩) N N] 29)).alloc (.cells #[.slice A n c] 90)) := by
            have hb4' : Below w3.heap.size w3 w4 := by rw [Hg.out]; exact hb4
            refine ⟨((?_ : Blk w4 g _ _).alloc _).alloc _, (Blk.new w4 _ _ (by omega)).alloc _, (((c5 : Blk w3 _ _ _).keep hb4').alloc _).alloc _, ?_, ?_, by simp; omega⟩
            · rw [show vwA N u [] = madeCells (Value.int .u64 0).cells (N * 1) from Array.toList_inj.1 (by rw [Nat.mul_one]; exact (Blo.vol_zero N).trans (Blo.made_list N _).symm)]
              exact hk4
            · exact ((hu3.below hb4').below ((Below.refl _ _).alloc (Nat.le_refl _) _)).below ((Below.refl _ _).alloc (Nat.le_refl _) _)
            · exact ((hB3.trans (hb4'.mono hB3.size)).alloc (by have := hs4; omega) _).alloc (by simp; omega) _
          have he0 : Es ((w4.alloc (.cells #[.slice (some ⟨g, 0, none⟩) N N] 29)).alloc (.cells #[.slice A n c] 90)) A n l := ((h3.below (by rw [Hg.out]; exact hb4)).alloc _).alloc _
          have hc0 : ((w4.alloc (.cells #[.slice (some ⟨g, 0, none⟩) N N] 29)).alloc (.cells #[.slice A n c] 90)).cell? ⟨g + 1 + 1, 0, none⟩ = some (.slice A n c) := (Blk.new _ _ #[.slice A n c] (by simp; omega)).cell (j := 0) rfl
          have hs0 : ((w4.alloc (.cells #[.slice (some ⟨g, 0, none⟩) N N] 29)).alloc (.cells #[.slice A n c] 90)).heap.size = g + 3 := by simp; omega
          revert h0 he0 hc0 hs0
          generalize ((w4.alloc (.cells #[.slice (some ⟨g, 0, none⟩) N N] 29)).alloc (.cells #[.slice A n c] 90)) = W0
          intro h0 he0 hc0 hs0
          refine wpIn_wide.1 (wpIn_rangeFunc_ownH (n := 3) rfl (by omega) (gf := 76) (lb := #[.pointer (some ⟨g + 1 + 1, 0, none⟩)]) rfl trivial (enters_of Try.func76 (by kernel_rfl) rfl)
            (each_stops 2 N (fun k => k = g) A n c l W0 (g + 1 + 1) hml Hend.out hn hag (fun k hk => by omega) hc0 he0) (fun h k => h.trans k) (fun W l o o' _ h ho _ => Ko.putObj W l o o' h ho) (Below.refl _ _) (fun _ => rfl)
            (fun pre W => VwI w g N U m d u (bls pre) W) (fun _ _ _ => False)
            (fun s X Y row hs hgr hr => hs.grown hgn hug hgr fun r e => by have := (hr r e).1; omega) (fun _ _ _ _ _ hs _ _ => hs) h0
            (fun x a' W => ∃ Bx, g + 3 ≤ Bx ∧ Blk W Bx 116 #[.int .i64 x.1.1, .int .i64 x.1.2.1, .int .i64 x.1.2.2] ∧ a' = { tmps := #[Value.slice A n c, Value.int IntKind.i64 (N : Int), Value.slice U m d, undef, undef, Value.pointer (some { block := w.heap.size, off := 0 }), Value.slice none 0 0, Value.int IntKind.i64 0, Value.pointer (some { block := g + 1, off := 0 }), Value.pointer (some { block := Bx, off := 0 }), Value.slice A n c, Value.bool true, Value.bool false, Value.bool false, Value.int IntKind.i64 (N : Int), Value.bool (decide ((N : Int) < 0)), Value.bool (decide ((N : Int) < 0)), Value.bool (decide ((N : Int) < 0)), Value.int IntKind.i64 (N : Int), Value.bool (decide (1024 < (N : Int))), Value.bool (decide ((N : Int) < 0) || decide (1024 < (N : Int))), Value.bool (decide ((N : Int) < 0) || decide (1024 < (N : Int))), Value.slice A n c, Value.int IntKind.i64 (endL l), Value.int IntKind.i64 (N : Int), Value.bool (decide ((N : Int) < endL l)), Value.bool (decide ((N : Int) < 0) || decide (1024 < (N : Int)) || decide ((N : Int) < endL l)), Value.int IntKind.i64 (N : Int), Value.slice (some { block := g, off := 0 }) N N, Value.slice A n c, Value.func (Fn.func 76) #[] #[Value.pointer (some { block := g + 1 + 1, off := 0 })], Value.agg #[Value.int IntKind.i64 x.val.fst, Value.int IntKind.i64 x.val.snd.fst, Value.int IntKind.i64 x.val.snd.snd], undef, undef, undef, undef, undef, undef, undef, undef, undef, undef, undef, undef, undef, undef, undef], defers := [] })
            ?hAx ?assign ?body ?done ?stop)
          case hAx =>
            rintro x a' _ X Y row ⟨Bx, hBx, bX, e⟩ hgr hr
            refine ⟨Bx, hBx, bX.grown hgr fun e2 => ?_, e⟩
            obtain ⟨o, ho, hc⟩ := (hr _ e2.symm).2
            rw [show X.heap[Bx]? = _ from bX] at ho
            cases ho
            cases hc
          case assign =>
            intro l0 pre x W K hi hK
            gi_wp2
            exact hK _ _ ((KeepsOthers.alloc _ _).from _) (Ko.alloc _ _) (hi.grown hgn hug (World.grownBy_alloc _ _ none) fun r e => by cases e) ⟨W.heap.size, hi.size, Blk.new _ _ _ rfl, rfl⟩
          case body =>
            rintro l0 pre x a' W hl ⟨r, hr⟩ hi ⟨Bx, hBx, bX, rfl⟩ hlt
            obtain ⟨⟨xo, xu, xb⟩, hx0, hx1, hx2, hx3, hx4, hx5⟩ := x
            obtain ⟨p, hp⟩ := Int.eq_ofNat_of_zero_le hx0
            obtain ⟨q, hq⟩ := Int.eq_ofNat_of_zero_le hx2
            dsimp only at hp hq hx0 hx1 hx2 hx3 hx4 hx5 bX
            subst hp hq
            have d0 := bX.cell (j := 0) (u := .int .i64 (p : Int)) rfl
            have d1 := bX.cell (j := 1) (u := .int .i64 (q : Int)) rfl
            have d5 := hi.box.cell (j := 0) (u := .slice U m d) rfl
            have d8 := hi.var.cell (j := 0) (u := .slice (some ⟨g, 0, none⟩) N N) rfl
            by_cases hqm : q < m
            · have hqi : (q : Int) < (m : Int) := by omega
              obtain ⟨b, o, rfl, hxu, cu, hul⟩ := hi.units.at_ hqm
              have hpn : p < N := by omega
              have hrs : (vwA N u (bls pre)).size = N := by simp [vwA, nvs_length, Blo.vol_length]
              obtain ⟨rv, hrv⟩ : ∃ rv, (vwA N u (bls pre))[p]? = some rv := ⟨_, Array.getElem?_eq_getElem (by omega)⟩
              have hub := hug _ rfl (by omega)
              have hi2 : VwI w g N (some ⟨b, o, none⟩) m d u (bls pre ++ [((p : Int), (q : Int), xb)]) (W.setCell ⟨g, p, none⟩ (.int .u64 ((u[q] : Nat) : Int))) := by
                have hgr := grown_setCell W ⟨g, p, none⟩ (.int .u64 ((u[q] : Nat) : Int))
                refine ⟨?_, hi.var.grown hgr (fun e => by simp at e), hi.box.grown hgr (fun e => by simp at e; omega), Ns.sub hi.units hgr (fun a ha _ e => by simp at e; have := hug _ ha (by omega); omega), hi.below.grown hgr hi.below.size (fun r e => by cases e; simp; omega), Nat.le_trans hi.size hgr.size⟩
                have := hi.row.setCell p (.int .u64 ((u[q] : Nat) : Int))
                rw [vwA_set (r := xb) hxu rfl] at this
                exact this
              have bX2 := bX.grown (grown_setCell W ⟨g, p, none⟩ (.int .u64 ((u[q] : Nat) : Int))) (fun e => by simp at e; omega)
              have f0 : (W.setCell ⟨g, p, none⟩ (.int .u64 ((u[q] : Nat) : Int))).cell? ⟨Bx, 0, none⟩ = some (.int .i64 (p : Int)) := bX2.cell (j := 0) rfl
              have f1 : (W.setCell ⟨g, p, none⟩ (.int .u64 ((u[q] : Nat) : Int))).cell? ⟨Bx, 1, none⟩ = some (.int .i64 (q : Int)) := bX2.cell (j := 1) rfl
              have f5 : (W.setCell ⟨g, p, none⟩ (.int .u64 ((u[q] : Nat) : Int))).cell? ⟨w.heap.size, 0, none⟩ = some (.slice (some ⟨b, o, none⟩) m d) := hi2.box.cell (j := 0) rfl
              have f8 : (W.setCell ⟨g, p, none⟩ (.int .u64 ((u[q] : Nat) : Int))).cell? ⟨g + 1, 0, none⟩ = some (.slice (some ⟨g, 0, none⟩) N N) := hi2.var.cell (j := 0) rfl
              have fu : (W.setCell ⟨g, p, none⟩ (.int .u64 ((u[q] : Nat) : Int))).cell? ⟨b, o + q, none⟩ = some (.int .u64 ((u[q] : Nat) : Int)) := by
                obtain ⟨b', o', eb, _, cu', _⟩ := hi2.units.at_ hqm
                cases eb
                exact cu'
              have er : W.drew.cell? ⟨g, p, none⟩ = some rv := hi.row.cell hrv
              have ef : W.drew.frozen? ⟨g, p, none⟩ = false := hi.row.free p
              gi_wp2
              refine wpIn_region_held (S := (fun w0 => w0.cell? ⟨Bx, 0, none⟩ = some (.int .i64 (p : Int)) ∧ w0.cell? ⟨Bx, 1, none⟩ = some (.int .i64 (q : Int)) ∧ w0.cell? ⟨w.heap.size, 0, none⟩ = some (.slice (some ⟨b, o, none⟩) m d) ∧ w0.cell? ⟨g + 1, 0, none⟩ = some (.slice (some ⟨g, 0, none⟩) N N) ∧ w0.cell? ⟨b, o + q, none⟩ = some (.int .u64 ((u[q] : Nat) : Int)))) (by kernel_rfl) (noDefer_of (by kernel_rfl)) (by rintro ⟨_, _, h⟩; exact h) ?_
              refine wpAnyH_take (i := 0) (oi := _) (v := ?_) rfl (by kernel_rfl) (by kernel_rfl) (by kernel_rfl) (fun _ _ _ h => h) (Or.inl ⟨by kernel_rfl, ?_⟩) ⟨d0, d1, d5, d8, cu⟩ ?_
              rotate_left
              · (rintro w ⟨z0, z1, z5, z8, zu⟩; go_simp; (first | done | rfl))
              try simp only [Act.put, List.getElem_toArray, List.getElem_cons_zero, List.getElem_cons_succ, List.setIfInBounds_toArray, List.set_cons_zero, List.set_cons_succ]
              refine wpAnyH_take (i := 1) (oi := _) (v := ?_) rfl (by kernel_rfl) (by kernel_rfl) (by kernel_rfl) (fun _ _ _ h => h) (Or.inl ⟨by kernel_rfl, ?_⟩) ⟨d0, d1, d5, d8, cu⟩ ?_
              rotate_left
              · (rintro w ⟨z0, z1, z5, z8, zu⟩; go_simp; (first | done | rfl))
              try simp only [Act.put, List.getElem_toArray, List.getElem_cons_zero, List.getElem_cons_succ, List.setIfInBounds_toArray, List.set_cons_zero, List.set_cons_succ]
              refine wpAnyH_take (i := 2) (oi := _) (v := ?_) rfl (by kernel_rfl) (by kernel_rfl) (by kernel_rfl) (fun _ _ _ h => h) (Or.inl ⟨by kernel_rfl, ?_⟩) ⟨d0, d1, d5, d8, cu⟩ ?_
              rotate_left
              · (rintro w ⟨z0, z1, z5, z8, zu⟩; go_simp; (first | done | rfl))
              try simp only [Act.put, List.getElem_toArray, List.getElem_cons_zero, List.getElem_cons_succ, List.setIfInBounds_toArray, List.set_cons_zero, List.set_cons_succ]
              refine wpAnyH_take (i := 3) (oi := _) (v := ?_) rfl (by kernel_rfl) (by kernel_rfl) (by kernel_rfl) (fun _ _ _ h => h) (Or.inl ⟨by kernel_rfl, ?_⟩) ⟨d0, d1, d5, d8, cu⟩ ?_
              rotate_left
              · (rintro w ⟨z0, z1, z5, z8, zu⟩; go_simp; (first | done | rfl))
              try simp only [Act.put, List.getElem_toArray, List.getElem_cons_zero, List.getElem_cons_succ, List.setIfInBounds_toArray, List.set_cons_zero, List.set_cons_succ]
              refine wpAnyH_take (i := 4) (oi := _) (v := ?_) rfl (by kernel_rfl) (by kernel_rfl) (by kernel_rfl) (fun _ _ _ h => h) (Or.inl ⟨by kernel_rfl, ?_⟩) ⟨d0, d1, d5, d8, cu⟩ ?_
              rotate_left
              · (rintro w ⟨z0, z1, z5, z8, zu⟩; go_simp; (first | done | rfl))
              try simp only [Act.put, List.getElem_toArray, List.getElem_cons_zero, List.getElem_cons_succ, List.setIfInBounds_toArray, List.set_cons_zero, List.set_cons_succ]
              refine wpAnyH_take (i := 5) (oi := _) (v := ?_) rfl (by kernel_rfl) (by kernel_rfl) (by kernel_rfl) (fun _ _ _ h => h) (Or.inl ⟨by kernel_rfl, ?_⟩) ⟨d0, d1, d5, d8, cu⟩ ?_
              rotate_left
              · (rintro w ⟨z0, z1, z5, z8, zu⟩; go_simp; (first | done | rfl))
              try simp only [Act.put, List.getElem_toArray, List.getElem_cons_zero, List.getElem_cons_succ, List.setIfInBounds_toArray, List.set_cons_zero, List.set_cons_succ]
              refine wpAnyH_take (i := 6) (oi := _) (v := ?_) rfl (by kernel_rfl) (by kernel_rfl) (by kernel_rfl) (fun _ _ _ h => h) (Or.inl ⟨by kernel_rfl, ?_⟩) ⟨d0, d1, d5, d8, cu⟩ ?_
              rotate_left
              · (rintro w ⟨z0, z1, z5, z8, zu⟩; go_simp; (first | done | rfl))
              try simp only [Act.put, List.getElem_toArray, List.getElem_cons_zero, List.getElem_cons_succ, List.setIfInBounds_toArray, List.set_cons_zero, List.set_cons_succ]
              refine wpAnyH_take (i := 7) (oi := _) (v := ?_) rfl (by kernel_rfl) (by kernel_rfl) (by kernel_rfl) (fun _ _ _ h => h) (Or.inl ⟨by kernel_rfl, ?_⟩) ⟨d0, d1, d5, d8, cu⟩ ?_
              rotate_left
              · (rintro w ⟨z0, z1, z5, z8, zu⟩; go_simp; (first | done | rfl))
              try simp only [Act.put, List.getElem_toArray, List.getElem_cons_zero, List.getElem_cons_succ, List.setIfInBounds_toArray, List.set_cons_zero, List.set_cons_succ]
              refine wpAnyH_take (i := 8) (oi := _) (v := ?_) rfl (by kernel_rfl) (by kernel_rfl) (by kernel_rfl) (fun _ _ _ h => h) (Or.inl ⟨by kernel_rfl, ?_⟩) ⟨d0, d1, d5, d8, cu⟩ ?_
              rotate_left
              · (rintro w ⟨z0, z1, z5, z8, zu⟩; go_simp; (first | done | rfl))
              try simp only [Act.put, List.getElem_toArray, List.getElem_cons_zero, List.getElem_cons_succ, List.setIfInBounds_toArray, List.set_cons_zero, List.set_cons_succ]
              refine wpAnyH_ready (rs := [9]) (by kernel_rfl) (by simp) (AllReadyH.cons (o := _) rfl (fun K hK => ?_) AllReadyH.nil)
              rw [if_pos (by kernel_rfl)]
              go_simp
              refine hK.out _ _ ⟨f0, f1, f5, f8, fu⟩ (fun _ => ?_)
              clear hK K
              try simp only [Act.put, List.getElem_toArray, List.getElem_cons_zero, List.getElem_cons_succ, List.setIfInBounds_toArray, List.set_cons_zero, List.set_cons_succ]
              refine wpAnyH_done (by kernel_rfl) ?_ _
              refine ⟨((KeepsOthers.setCell _ _ _).trans (KeepsOthers.drew _)).from _, (Ko.setCell (T := fun k => k = g) (b := g) W p _ rfl).trans (Ko.drew _), ?_⟩
              dsimp only
              rw [bls_snoc]
              exact hi2.drew
            · have hqi : (m : Int) ≤ (q : Int) := by omega
              have hul : u.length ≤ q := by have := hi.units.len; omega
              gi_wp2
              refine ⟨KeepsFrom.refl _ _, Ko.refl _ _, ?_⟩
              dsimp only
              rw [bls_snoc]
              have e := vwA_skip (N := N) (xs := bls pre) (p := p) (r := xb) hul
              exact ⟨by rw [e]; exact hi.row, hi.var, hi.box, hi.units, hi.below, hi.size⟩
          case done =>
            rintro D xs W hD hxs hi hK
            rw [hxs] at hi
            have d8 := hi.var.cell (j := 0) (u := .slice (some ⟨g, 0, none⟩) N N) rfl
            have hKB : Below g W (W.putObj D (.deferred none)) := (Below.refl g W).grown (grownBy_putObj' W D _) (by have := hi.size; omega) (fun k e => by cases e; omega)
            have hgK := grownBy_putObj' W D (.deferred none)
            have hrow2 := hi.row.grown hgK (fun e => by cases e; omega)
            have HE := Lib.hid (show vwE l (N : Int) = 0 by unfold vwE; rw [Hok.out]; rfl)
            have HL := Lib.hid (show vwL l (N : Int) u = Blo.vol N (laid (unitG u) (fun _ => 0) (bkL l)) by unfold vwL; rw [Hok.out, laid_show (right_is.1 hr).1]; rfl)
            have hlow : Blo.low64 (laid (unitG u) (fun _ => 0) (bkL l)) := by
              rw [laid_show (right_is.1 hr).1]
              exact fun i => show_low hi.units.2 l i
            have hBD : Below w.heap.size w (W.putObj D (.deferred none)) := hi.below.trans (hKB.mono (by omega))
            go_wp2
            refine marks1 hK (results_tmp2 rfl _ _ _) ?_
            rw [HE.out, HL.out]
            exact ⟨some ⟨g, 0, none⟩, N, N, rfl, ⟨Blo.own_blk hrow2 (by omega) (by unfold maxLen; omega) rfl (by rw [nvs_length, Blo.vol_length]), Blo.vol_low hlow⟩, hBD⟩
          case stop =>
            rintro D cc pre W _ _ h _
            exact h.elim
        · have hz3 : z < endL l := by omega
          go_wp2
          refine marks0 (results_tmp2 rfl _ _ _) (view_no (by simp [vwB, hr]; omega) rfl hB3)
      · go_wp2
        refine marks0 (results_tmp2 rfl _ _ _) (view_no (by simp [vwB, hr]; omega) rfl hB2)
    · go_wp2
      refine marks0 (results_tmp2 rfl _ _ _) (view_no (by simp [vwB, hr]; omega) rfl hB2)
end
end Go.Proofs.Ytfcfffilfmbpeaa
