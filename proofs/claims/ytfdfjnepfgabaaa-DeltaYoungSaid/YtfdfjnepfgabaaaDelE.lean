/- Layer 9: each: what goes over the blocks of a list, as a function that is ranged over. -/
import Derived.Test.YtfdfjnepfgabaaaDelB
import Derived.Test.YtfdfjnepfgabaaaRng
import Derived.Test.YtfdfjnepfgabaaaEmpW
import Derived.Shelf.Abstract
import Derived.Shelf.RegionOpen
import Derived.WalkKit
import Derived.OwnWalkIn
import Derived.TacticsInMore
import Derived.LoopNIn
import Derived.LoopIn
set_option linter.all false
namespace Go.Proofs.Ytfdfjnepfgabaaa
open Go.RowKit Go.Shelf
attribute [local go_sem] Oper.semAt_some

/-- Cells stay as they were, but for the blocks T. -/
structure Ko (T : Nat → Prop) (W W' : World) : Prop where
  size : W.heap.size ≤ W'.heap.size
  same : ∀ k o, ¬ T k → W.heap[k]? = some o → o.isCells = true → W'.heap[k]? = some o
theorem Ko.refl (T : Nat → Prop) (W : World) : Ko T W W := ⟨Nat.le_refl _, fun _ _ _ h _ => h⟩
theorem Ko.trans {T : Nat → Prop} {A B C : World} (h : Ko T A B) (k : Ko T B C) : Ko T A C := ⟨Nat.le_trans h.size k.size, fun i o hT ho hc => k.same i o hT (h.same i o hT ho hc) hc⟩
theorem Ko.of_grown {T : Nat → Prop} {W W' : World} {row : Option Nat} (hg : W.grownBy W' row) (hr : ∀ r, row = some r → T r ∨ ∃ o, W.heap[r]? = some o ∧ o.isCells = false) : Ko T W W' := ⟨hg.size, fun k o hT hk hc => by
  refine (hg.block k (Array.getElem?_eq_some_iff.1 hk).1 fun e => ?_).trans hk
  rcases hr k e.symm with h | ⟨u, hu, h⟩
  · exact hT h
  · rw [hu] at hk
    cases hk
    rw [h] at hc
    cases hc⟩
theorem Ko.putObj {T : Nat → Prop} (W : World) (l : Nat) (o o' : Obj) (h : W.heap[l]? = some o) (ho : o.isCells = false) : Ko T W (W.putObj l o') :=
  Ko.of_grown (grownBy_putObj' W l o') fun r e => by cases e; exact .inr ⟨o, h, ho⟩
theorem Ko.alloc {T : Nat → Prop} (W : World) (o : Obj) : Ko T W (W.alloc o) := Ko.of_grown (World.grownBy_alloc W o none) fun r e => by cases e
theorem Ko.drew {T : Nat → Prop} (W : World) : Ko T W W.drew := ⟨Nat.le_refl _, fun _ _ _ h _ => h⟩
theorem Ko.drewN {T : Nat → Prop} (W : World) (k : Nat) : Ko T W (W.drewN k) := ⟨Nat.le_refl _, fun _ _ _ h _ => h⟩
theorem Ko.setCell {T : Nat → Prop} {b : Nat} (W : World) (j : Nat) (u : Value) (h : T b) : Ko T W (W.setCell ⟨b, j, none⟩ u) := Ko.of_grown (grown_setCell W ⟨b, j, none⟩ u) fun r e => by cases e; exact .inl h
theorem cell_is {w : World} {p : Addr} {u : Value} (h : w.cell? p = some u) : ∃ o, w.heap[p.block]? = some o ∧ o.isCells = true := by
  unfold World.cell? at h
  split at h
  · rename_i hb; exact ⟨_, hb, rfl⟩
  · cases h
theorem Ko.cell {T : Nat → Prop} {W W' : World} (h : Ko T W W') {p : Addr} {u : Value} (hp : ¬ T p.block) (hc : W.cell? p = some u) : W'.cell? p = some u := by
  obtain ⟨o, ho, hi⟩ := cell_is hc
  rw [World.cell?_of_block ((h.same _ o hp ho hi).trans ho.symm)]
  exact hc
theorem Ko.es {T : Nat → Prop} {W W' : World} (h : Ko T W W') {A : Option Addr} {n : Nat} {l : List Ext} (hA : ∀ a, A = some a → 0 < n → ¬ T a.block) (he : Es W A n l) : Es W' A n l :=
  ⟨⟨he.rd.1, fun j u hu => by
    obtain ⟨b, o, e, hc⟩ := he.rd.2 j u hu
    have hn : 0 < n := by
      have h1 := (List.getElem?_eq_some_iff.1 hu).1
      rw [evs_len, ← he.len] at h1
      omega
    exact ⟨b, o, e, h.cell (p := ⟨b, o + j, none⟩) (hA ⟨b, o, none⟩ e hn) hc⟩⟩, he.fit⟩
theorem es_lt {w : World} {A : Option Addr} {n : Nat} {l : List Ext} (h : Es w A n l) : ∀ a, A = some a → 0 < n → a.block < w.heap.size := fun a e hn => by
  obtain ⟨b, o, e', x, hx, fx, c0, _⟩ := h.at_ hn
  rw [e] at e'
  cases e'
  exact cell_lt c0

set_option maxRecDepth 100000 in
set_option maxHeartbeats 1000000 in
theorem each_ (w : World) (A : Option Addr) (n c : Nat) : Calls Try.prog 27 #[.slice A n c] w fun e w' =>
    e = .returned (.func (.func 47) #[] #[.pointer (some ⟨w.heap.size, 0, none⟩)]) ∧ w' = w.alloc (.cells #[.slice A n c] 22) := by
  go_enter Try.func27, Try.ntmps27
  go_wp2
  go_ret
  exact ⟨rfl, rfl⟩

abbrev bkV {N : Nat} (x : Bk N) : Array Value := #[.agg #[.int .i64 x.1.1, .int .i64 x.1.2.1, .int .i64 x.1.2.2]]
/-- What is asked of a round that each calls. -/
theorem abides_alloc {α : Type} {B : Nat} {J : α → World → Prop} (h : AbidesFrom B J) (s : α) (w : World) (o : Obj) (hj : J s w) : J s (w.alloc o) := h s w (w.alloc o) none hj (World.grownBy_alloc w o none) (fun r e => by cases e)
set_option maxRecDepth 100000 in
set_option maxHeartbeats 2000000 in
theorem each1_ (m l0 Bn N : Nat) (T : Nat → Prop) (A : Option Addr) (n c : Nat) (l : List Ext) (J Jx : List (Bk N) → World → Prop) (W : World) (hml : ∀ x ∈ l, x.may = true) (hend : endsB l (N : Int)) (hn0 : n ≤ 9223372036854775807)
    (hT : ∀ a, A = some a → 0 < n → ¬ T a.block) (hTn : ∀ k, W.heap.size ≤ k → ¬ T k) (hJ : AbidesFrom W.heap.size J)
    (hY : ∀ pre x W1, J pre W1 → pre.length < (bkL l).length → YieldAt Fence.wide (m - 1) Try.prog l0 (bkV x) W1 fun e W' =>
      (e = .returned (.bool true) ∧ J (pre ++ [x]) W' ∧ Ko T W1 W') ∨ (e = .returned (.bool false) ∧ Jx (pre ++ [x]) W'))
    (hBn : W.cell? ⟨Bn, 0, none⟩ = some (.slice A n c)) (hes : Es W A n l) (h0 : J [] W) :
    CallsIn Fence.wide m Try.prog 47 #[.func (.yield l0) #[] #[], .pointer (some ⟨Bn, 0, none⟩)] W fun e W' => (∃ v, e = .returned v) ∧
      ((∃ ys, bls ys = bkL l ∧ J ys W') ∨ (∃ pre, bls pre <+: bkL l ∧ Jx pre W')) := by
  have hnl := hes.len
  have Hnl := Lib.hid hnl
  clear hnl
  refine callsIn_of_wp Try.func47 rfl trivial ?_ rfl
  simp only [Try.ntmps47, List.size_toArray, List.length_cons, List.length_nil, Nat.reduceAdd, Nat.reduceSub, Array.replicate_succ, Array.replicate_zero, List.push_toArray, List.append_toArray, List.nil_append, List.cons_append]
  gi_wp2
  gi_loopw [8] (fun kv wr => ∃ (k : Nat) (pre : List (Bk N)), k ≤ n ∧ kv = .int .i64 (k : Int) ∧ bls pre = bkL (l.take k) ∧ J pre wr ∧ Es wr A n l ∧ W.heap.size ≤ wr.heap.size) (fun kv _ => n - (intOf kv).toNat)
  case atStart => exact ⟨0, [], Nat.zero_le _, rfl, rfl, h0, hes, Nat.le_refl _⟩
  case round =>
    obtain ⟨k, pre, hk, rfl, hpre, hJr, her, hsz⟩ := hrel
    have Hp := Lib.hid hpre
    clear hpre
    by_cases hlt : k < n
    · have hil : (k : Int) < (n : Int) := by omega
      have hk0 : (0 : Int) ≤ (k : Int) := by omega
      obtain ⟨b, o, rfl, x, hx, fx, c0, c1, c2, c3⟩ := her.at_ hlt
      have hxm := hml x (List.mem_of_getElem? hx)
      have hxe := hend x (List.mem_of_getElem? hx)
      have hxl := may_len hxm
      obtain ⟨q, hq⟩ := Int.eq_ofNat_of_zero_le (show 0 ≤ x.len by omega)
      have hqn : x.len.toNat = q := by omega
      have hlt2 := fun i (hi : i < q) => bkL_lt hx (i := i) (by omega)
      have Hs := Lib.hid (bkL_take hx)
      have Hq := Lib.hid hqn
      have Hx := Lib.hid hq
      rw [hq] at c1
      clear hqn hq hBn hes h0
      obtain ⟨g, hg⟩ : ∃ g, wr.heap.size = g := ⟨_, rfl⟩
      have Hg := Lib.hid hg
      have hT1 : ¬ T g := hTn _ (by omega)
      have hJ1 := abides_alloc hJ _ wr (.cells #[.int .i64 x.off, .int .i64 (q : Int), .int .i64 x.phys, .int .i64 x.birth] 57) hJr
      have he1 := her.alloc (.cells #[.int .i64 x.off, .int .i64 (q : Int), .int .i64 x.phys, .int .i64 x.birth] 57)
      have hb1 : Blk (wr.alloc (.cells #[.int .i64 x.off, .int .i64 (q : Int), .int .i64 x.phys, .int .i64 x.birth] 57)) wr.heap.size 57 #[.int .i64 x.off, .int .i64 (q : Int), .int .i64 x.phys, .int .i64 x.birth] := Blk.new wr _ _ rfl
      rw [hg] at hb1
      have d0 := hb1.cell (j := 0) (u := .int .i64 x.off) rfl
      have d1 := hb1.cell (j := 1) (u := .int .i64 (q : Int)) rfl
      have d2 := hb1.cell (j := 2) (u := .int .i64 x.phys) rfl
      have d3 := hb1.cell (j := 3) (u := .int .i64 x.birth) rfl
      clear hb1
      gi_wp2
      gi_loopw [14] (fun iv wx => ∃ (i : Nat) (pre2 : List (Bk N)), i ≤ q ∧ iv = .int .i64 (i : Int) ∧ bls pre2 = bkL (l.take k) ++ bkTo x i ∧ J pre2 wx ∧ Es wx (some ⟨b, o, none⟩) n l ∧ W.heap.size ≤ wx.heap.size ∧
          wx.cell? ⟨g, 0, none⟩ = some (.int .i64 x.off) ∧ wx.cell? ⟨g, 2, none⟩ = some (.int .i64 x.phys) ∧ wx.cell? ⟨g, 3, none⟩ = some (.int .i64 x.birth)) (fun iv _ => q - (intOf iv).toNat)
      case atStart => exact ⟨0, pre, Nat.zero_le _, rfl, by rw [Hp.out, bkTo_zero, List.append_nil], hJ1, he1, by simp; omega, d0, d2, d3⟩
      case round =>
        obtain ⟨i, pre2, hi, rfl, hpre2, hJx, hex, hsx, e0, e2, e3⟩ := hrel
        have Hp2 := Lib.hid hpre2
        have Hpl := Lib.hid (show pre2.length = (bkL (l.take k) ++ bkTo x i).length by rw [← hpre2, List.length_map])
        clear hpre2 hJ1 he1 d0 d1 d2 d3 hJr her c0 c1 c2 c3
        by_cases hiq : i < q
        · have hil2 : (i : Int) < (q : Int) := by omega
          have hi0 : (0 : Int) ≤ (i : Int) := by omega
          have hw1 : IntKind.i64.wrap (x.off + (i : Int)) = x.off + (i : Int) := by rw [IntKind.wrap_i64]; have := Hx.out; omega
          have hw2 : IntKind.i64.wrap (x.phys + (i : Int)) = x.phys + (i : Int) := by rw [IntKind.wrap_i64]; have := Hx.out; omega
          have hok := bk_ok hxm hxe (i := i) (by rw [Hx.out]; omega)
          obtain ⟨fn, tmps, assign, body, hy, hR⟩ := hY pre2 ⟨(x.off + (i : Int), x.phys + (i : Int), x.birth), hok⟩ _ hJx (by rw [Hpl.out]; exact hlt2 i hiq)
          dsimp only [bkV] at hy
          gi_wp2
          refine ⟨(fun h => by cases h), hR.mono ?_⟩
          rintro e W3 (⟨rfl, hJ3, hk3⟩ | ⟨rfl, hJx3⟩)
          · have hex3 := hk3.es hT hex
            have f0 := hk3.cell (p := ⟨g, 0, none⟩) hT1 e0
            have f2 := hk3.cell (p := ⟨g, 2, none⟩) hT1 e2
            have f3 := hk3.cell (p := ⟨g, 3, none⟩) hT1 e3
            have hs3 : W.heap.size ≤ W3.heap.size := Nat.le_trans hsx hk3.size
            gi_wp2
            go_roundw
            case rel => exact ⟨i + 1, pre2 ++ [⟨(x.off + (i : Int), x.phys + (i : Int), x.birth), hok⟩], by omega, by go_num, by rw [bls_snoc, Hp2.out, bkTo_succ, List.append_assoc], hJ3, hex3, hs3, f0, f2, f3⟩
            case measure => simp [intOf]; omega
          · gi_wp2
            refine bodyPost_ret (results_none rfl _ _ _) rfl ?_
            exact ⟨⟨_, rfl⟩, .inr ⟨pre2 ++ [⟨(x.off + (i : Int), x.phys + (i : Int), x.birth), hok⟩], by rw [bls_snoc, Hp2.out, List.append_assoc, ← bkTo_succ]; exact bkL_part hx (by rw [Hq.out]; omega), hJx3⟩⟩
        · have Hje := Lib.hid (show i = q by omega)
          have hqi : (q : Int) ≤ (i : Int) := by omega
          gi_wp2
          go_roundw
          case rel => exact ⟨k + 1, pre2, by omega, by go_num, by rw [Hp2.out, Hs.out, Hq.out, ← Hje.out], hJx, hex, hsx⟩
          case measure => simp [intOf]; omega
    · gi_wp2
      go_end0
      exact ⟨⟨_, rfl⟩, .inl ⟨pre, by rw [Hp.out, List.take_of_length_le (by have := Hnl.out; omega)], hJr⟩⟩
/-- **each, as what is ranged over**: T are the blocks that the body may turn. -/
theorem each_stops (m N : Nat) (T : Nat → Prop) (A : Option Addr) (n c : Nat) (l : List Ext) (w : World) (Bn : Nat) (hml : ∀ x ∈ l, x.may = true) (hend : endsB l (N : Int)) (hn0 : n ≤ 9223372036854775807)
    (hT : ∀ a, A = some a → 0 < n → ¬ T a.block) (hTn : ∀ k, w.heap.size ≤ k → ¬ T k) (hBn : w.cell? ⟨Bn, 0, none⟩ = some (.slice A n c)) (hes : Es w A n l) :
    SeqStopsK Fence.wide m Try.prog 47 #[.pointer (some ⟨Bn, 0, none⟩)] (bkV (N := N)) (Ko T) (fun xs => bls xs = bkL l) (fun pre => bls pre <+: bkL l) (bkL l).length w := fun l0 J Jx W hW hJ _ hY h0 =>
  each1_ m l0 Bn N T A n c l J Jx W hml hend hn0 hT (fun k hk => hTn k (Nat.le_trans hW.size hk)) hJ hY ((hW.cell (p := ⟨Bn, 0, none⟩) (cell_lt hBn)).trans hBn) (hes.below hW) h0
end Go.Proofs.Ytfdfjnepfgabaaa
