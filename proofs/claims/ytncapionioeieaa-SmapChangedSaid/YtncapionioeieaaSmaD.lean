/- Layer 13: slices.Grow of nothing, slices.Concat of pieces; what is answered as a map. -/
import Derived.Test.YtncapionioeieaaSmaC
import Derived.Test.YtncapionioeieaaZeros
set_option linter.all false
namespace Go.Proofs.Ytncapionioeieaa
open Go.RowKit
namespace Sma

theorem info_pc : (Try.prog.info? 58).map (fun i => (i.zero, i.size, i.bytes)) = some (some (.agg #[.int .i64 0, .int .i64 0, .int .i64 0]), 3, 24) := by kernel_rfl
theorem pc_info : ∃ i, Try.prog.info? 58 = some i ∧ i.zero = some (.agg #[.int .i64 0, .int .i64 0, .int .i64 0]) ∧ i.size = 3 ∧ i.bytes = 24 := by
  obtain ⟨i, hi, he⟩ := Option.map_eq_some_iff.1 info_pc
  simp only [Prod.mk.injEq] at he
  exact ⟨i, hi, he.1, he.2.1, he.2.2⟩
/-- A row of the call's own, in new memory from base on, that reads as l. -/
abbrev Po (w : World) (base : Nat) (v : Value) (n : Nat) (l : List Pc) : Prop := w.ownsRow base 58 3 v n (pvs l)
theorem po_len {w : World} {base : Nat} {v : Value} {n : Nat} {l : List Pc} (h : Po w base v n l) : n = l.length := by have := h.1; rw [pvs_len] at this; omega
theorem po_ps {w : World} {base : Nat} {A : Option Addr} {n c : Nat} {l : List Pc} (h : Po w base (.slice A n c) n l) (hf : ∀ p ∈ l, Fit p) : Ps w A n l := ⟨rd_own h, hf⟩
theorem po_nil (w : World) (base : Nat) : Po w base (.slice none 0 0) 0 [] := own_nil w base _ 3
theorem po_of {w : World} {base : Nat} {v : Value} {n : Nat} {xs : List Value} {l : List Pc} (h : w.ownsRow base 58 3 v n xs) (e : xs = pvs l) : Po w base v n l := by subst e; exact h
theorem wpList_grow_nil {P : Program} (w : World) {ops : Array Oper} {rest : List Oper} {o : Oper} {a : Act} {Q : Exit → Act → World → Prop} (hgd : o.guard = none) (s x : Operand) (t tn : TypeId)
    (ho : o.op = .call { callee := .builtin .append, args := #[s, x], argTypes := #[t, tn] })
    (e : TypeId) (i : TypeInfo) (z : Value) (kq kn : IntKind) (ht : P.underlying t = some (.slice e)) (htn : P.underlying tn = some (.int kn)) (hi : P.info? e = some i) (hz : i.zero = some z)
    (size : Nat) (hsize : i.size = size) (hsz : 0 < size) (hzs : z.cells.size = size) (hs : a.eval s = .slice none 0 0) (K : Int) (k : Nat) (hx : a.eval x = .int kq K) (hK : K = (k : Int)) (hk : 0 < k) (h63 : k ≤ 9223372036854775807) (h48 : k * i.bytes ≤ 281474976710656)
    (h : ∀ cap w', w'.ownsRow w.heap.size e size (.slice (some ⟨w.heap.size, 0, none⟩) 0 cap) 0 [] → k ≤ cap → cap ≤ maxLen → Below w.heap.size w w' → wpList P ops Q rest (a.put o.dst (.slice (some ⟨w.heap.size, 0, none⟩) k cap)) w') : wpList P ops Q (o :: rest) a w := by
  subst hK
  have hr := Lib.run_append_nil_zeros (P := P) w t tn o.type e i z kq kn ht htn hi hz k hk (by omega) (by omega) h48
  have hge := grownCap_ge w k 0 e
  have hcm := grownCap_le_maxLen w k 0 e (by unfold maxLen; omega)
  refine Lib.wpList_append_run w hgd s x t tn ho _ _ hs hx _ _ hr (h _ _ ⟨by simp, .inr ⟨w.heap.size, _, _, rfl, Nat.le_refl _, heap_alloc_new w.drew _, Nat.zero_le _, hcm, ?_, by simp⟩⟩ hge hcm ?_)
  · simp only [Array.size_append, Builtin.zeroCells, Array.size_map, Array.size_range, hzs, ← Nat.add_mul]
    congr 1
    omega
  · have hb := (Below.refl w.heap.size w.drew).alloc (Nat.le_refl _) (.cells (Builtin.zeroCells z.cells k ++ Builtin.zeroCells z.cells (grownCap w k 0 e - k)) e)
    exact ⟨hb.os, hb.tape, hb.output, hb.size, hb.block⟩
section
variable (w : World)
set_option maxRecDepth 100000 in
set_option maxHeartbeats 1000000 in
theorem grow_ (n : Nat) (h0 : 0 < n) (hn : n ≤ 1000000) :
    Calls Try.prog 47 #[.slice none 0 0, .int .i64 (n : Int)] w fun e w' => ∃ v, e = .returned v ∧ Po w' w.heap.size v 0 [] ∧ Below w.heap.size w w' := by
  obtain ⟨i0, hi0, hz0, hz1, hz2⟩ := pc_info
  have Hz := Lib.hid hz2
  clear hz2
  have hp : (0 : Int) ≤ (n : Int) := by omega
  have hp' : (0 : Int) < (n : Int) := by omega
  go_enter Try.func47, Try.ntmps47
  go_wp2_with (first
    | (at_builtin
       refine wpList_grow_nil _ rfl (.tmp 20) (.tmp 21) _ _ rfl 58 i0 (.agg #[.int .i64 0, .int .i64 0, .int .i64 0]) .i64 .i64 Try.underlying23 Try.underlying3 hi0 hz0 3 hz1 (by omega) rfl rfl (n : Int) n rfl rfl h0 (by omega) (by rw [Hz.out]; omega) ?_
       intro cap w2 hown2 hc2 hm2 hb2
       unfold maxLen at hm2))
  go_ret
  exact ⟨_, rfl, hown2, hb2⟩
/-- The slice value '.slice A n _' reads as slices of pieces. -/
def Pss (w : World) (A : Option Addr) (n : Nat) (ls : List (List Pc)) : Prop :=
  n = ls.length ∧ ∀ (i : Nat) (h : i < ls.length), ∃ b o A' n' c', A = some ⟨b, o, none⟩ ∧ w.cell? ⟨b, o + i, none⟩ = some (.slice A' n' c') ∧ n' ≤ c' ∧ Ps w A' n' ls[i]
theorem Pss.below {w w' : World} {A : Option Addr} {n : Nat} {ls : List (List Pc)} (h : Pss w A n ls) (hb : Below w.heap.size w w') : Pss w' A n ls :=
  ⟨h.1, fun i hi => by
    obtain ⟨b, o, A', n', c', e, hc, h1, h2⟩ := h.2 i hi
    exact ⟨b, o, A', n', c', e, (hb.cell (cell_lt hc)).trans hc, h1, h2.below hb⟩⟩
def lens (l : List (List Pc)) : Nat := (l.map List.length).sum
theorem lens_snoc {l : List (List Pc)} {k : Nat} (h : k < l.length) : lens (l.take (k + 1)) = lens (l.take k) + l[k].length := by
  unfold lens
  rw [List.take_succ_eq_append_getElem h, List.map_append, List.sum_append, List.map_singleton, List.sum_singleton]
theorem lens_take (l : List (List Pc)) (k : Nat) : lens (l.take k) ≤ lens l := by
  have : lens l = lens (l.take k) + lens (l.drop k) := by
    unfold lens
    rw [← List.sum_append, ← List.map_append, List.take_append_drop]
  omega
set_option maxRecDepth 100000 in
set_option maxHeartbeats 2000000 in
theorem concat_ (A : Option Addr) (n c : Nat) (l : List (List Pc)) (h : Pss w A n l) (hn : n ≤ 9223372036854775807) (hl : lens l ≤ 1000000) (hl0 : 0 < lens l) :
    Calls Try.prog 45 #[.slice A n c] w fun e w' => ∃ v, e = .returned v ∧ Po w' w.heap.size v (lens l) l.flatten ∧ Below w.heap.size w w' := by
  obtain ⟨i0, hi0, hz0, hz1, hz2⟩ := pc_info
  have Hz := Lib.hid hz2
  have Hl := Lib.hid h.1
  clear hz2
  go_enter Try.func45, Try.ntmps45
  go_wp2_with fail
  go_loopw [3, 11] (fun sv iv wr => ∃ (i s : Nat), i ≤ n ∧ iv = .int .i64 (i : Int) ∧ sv = .int .i64 (s : Int) ∧ Hid (s = lens (l.take i)) ∧ wr = w) (fun _ iv _ => n - (intOf iv).toNat)
  case atStart => exact ⟨0, 0, Nat.zero_le _, rfl, rfl, Lib.hid rfl, rfl⟩
  case round =>
    obtain ⟨i, s, hi, rfl, rfl, Hs, rfl⟩ := hrel
    by_cases hlt : i < n
    · have hil : (i : Int) < (n : Int) := by omega
      have hi0' : (0 : Int) ≤ (i : Int) := by omega
      obtain ⟨b, o, A', n', c', rfl, hc, h1, h3⟩ := h.2 i (by have := Hl.out; omega)
      have hin : i < l.length := by have := Hl.out; omega
      have HS := Lib.hid (show s + n' = lens (l.take (i + 1)) by rw [lens_snoc hin, Hs.out, h3.len])
      have hsb : s + n' ≤ 1000000 := by have := lens_take l (i + 1); have := HS.out; omega
      have hw : IntKind.i64.wrap ((s : Int) + (n' : Int)) = ((s + n' : Nat) : Int) := by rw [IntKind.wrap_i64]; omega
      have hs0 : (0 : Int) ≤ ((s + n' : Nat) : Int) := by omega
      clear h h3 h1
      go_wp2
      go_roundw
      case rel => exact ⟨i + 1, s + n', by omega, by go_num, by go_num, HS, trivial⟩
      case measure => simp [intOf]; omega
    · have hin : i = n := by omega
      subst hin
      have hL := Lib.hid (List.take_of_length_le (l := l) (i := i) (by have := Hl.out; omega))
      rw [hL.out] at Hs
      obtain ⟨wo, rfl⟩ : ∃ wo : World, wo = wr := ⟨_, rfl⟩
      have hsb : s ≤ 1000000 := by have := Hs.out; omega
      have hs00 : 0 < s := by have := Hs.out; omega
      go_wp2_with fail
      refine (grow_ _ s hs00 hsb).mono ?_
      rintro e w1 ⟨v1, rfl, hown1, hb1⟩
      have hs1 := hb1.size
      go_wp2_with fail
      go_loopw [6, 27] (fun vv iv wr => ∃ (j k : Nat), j ≤ i ∧ iv = .int .i64 (j : Int) ∧ k ≤ 1000000 ∧ Hid (k = lens (l.take j)) ∧ Po wr wo.heap.size vv k (l.take j).flatten ∧ Below wo.heap.size wo wr) (fun _ iv _ => i - (intOf iv).toNat)
      case atStart => exact ⟨0, 0, Nat.zero_le _, rfl, Nat.zero_le _, Lib.hid rfl, by simpa [pvs] using hown1, hb1⟩
      case round =>
        obtain ⟨j, k, hj, rfl, hk, Hk, hown, hb⟩ := hrel
        by_cases hlt2 : j < i
        · have hjl : (j : Int) < (i : Int) := by omega
          have hj0 : (0 : Int) ≤ (j : Int) := by omega
          have hjn : j < l.length := by have := Hl.out; omega
          obtain ⟨b, o, A', n', c', rfl, hc, g1, g3⟩ := (h.below hb).2 j hjn
          have HS := Lib.hid (show k + n' = lens (l.take (j + 1)) by rw [lens_snoc hjn, Hk.out, g3.len])
          have HF := Lib.hid (show (l.take (j + 1)).flatten = (l.take j).flatten ++ l[j] by rw [List.take_succ_eq_append_getElem hjn, List.flatten_append, List.flatten_singleton])
          have hsb2 : k + n' ≤ 1000000 := by have := lens_take l (j + 1); have := HS.out; omega
          have hgA : A' = none → n' = 0 := g3.zero
          have hsz := hb.size
          clear h hown1
          go_wp2_with (first
            | (at_builtin
               refine wpList_app _ rfl (.tmp 31) (.tmp 32) _ rfl wo.heap.size 58 i0 _ 3 24 Try.underlying23 hi0 hz0 hz1 Hz.out rfl (by omega) _ k _ rfl hown A' n' c' (pvs l[j]) rfl hgA g3.rd (pvs_one _) (by unfold maxLen; omega) (by omega) (by omega) ?_
               intro v3 w3 hown3 hg3 hat3
               rw [← pvs_app, ← HF.out] at hown3
               have hB3 : Below wo.heap.size wo w3 := hb.grown hg3 (by omega) (fun k hk => (hown.lt k hk).1)
               clear hg3 hat3 hown))
          go_roundw
          case rel => exact ⟨j + 1, k + n', by omega, by go_num, hsb2, HS, hown3, hB3⟩
          case measure => simp [intOf]; omega
        · have hji : j = i := by omega
          subst hji
          rw [hL.out] at hown Hk
          go_wp2
          go_ret
          exact ⟨_, rfl, by rw [← Hk.out]; exact hown, hb⟩
end
/-- What is answered: a map in new memory and an error's number. -/
structure Got (w : World) (B : Nat) (A : Option Addr) (k c : Nat) (m : Mp) : Prop where
  own : Po w B (.slice A k c) k m.ps
  mr : Mr w m A k c
theorem Got.keep {w w' : World} {B : Nat} {A : Option Addr} {k c : Nat} {m : Mp} (h : Got w B A k c m) (hb : Below w.heap.size w w') : Got w' B A k c m := ⟨own_keep h.own hb, h.mr.below hb⟩
theorem Got.mono {w : World} {B B' : Nat} {A : Option Addr} {k c : Nat} {m : Mp} (h : Got w B A k c m) (hB : B' ≤ B) : Got w B' A k c m :=
  ⟨⟨h.own.1, h.own.2.imp id fun ⟨g, cap, cur, e, hg, r⟩ => ⟨g, cap, cur, e, Nat.le_trans hB hg, r⟩⟩, h.mr⟩
def Ans (w w' : World) (e : Ending) (r : Mp × Int) : Prop := ∃ A k c, e = .returned (.tuple #[mv r.1 A k c, .int .i64 r.2]) ∧ Got w' w.heap.size A k c r.1 ∧ Below w.heap.size w w'
theorem got_zero (w : World) (B : Nat) : Got w B none 0 0 zM := ⟨po_nil w B, ⟨by unfold I64 zM; simp, by unfold I64 zM; simp, Ps.nil, Nat.le_refl _, Nat.zero_le _, fun _ => rfl⟩⟩
theorem below_undrew {B : Nat} {a w : World} (h : Below B a.drew w) : Below B a w := ⟨h.os, h.tape, h.output, h.size, h.block⟩
theorem blk_set3 {w : World} {b : Nat} {t : TypeId} {x y z : Value} (h : Blk w b t #[x, y, z]) (u0 u1 u2 : Value) : Blk (((w.setCell ⟨b, 0, none⟩ u0).setCell ⟨b, 1, none⟩ u1).setCell ⟨b, 2, none⟩ u2) b t #[u0, u1, u2] := by
  simpa using ((h.setCell 0 u0).setCell 1 u1).setCell 2 u2
theorem grown3 (w : World) (b : Nat) (u0 u1 u2 : Value) : w.grownBy (((w.setCell ⟨b, 0, none⟩ u0).setCell ⟨b, 1, none⟩ u1).setCell ⟨b, 2, none⟩ u2) (some b) :=
  ((grown_setCell w ⟨b, 0, none⟩ u0).trans (grown_setCell _ ⟨b, 1, none⟩ u1)).trans (grown_setCell _ ⟨b, 2, none⟩ u2)
theorem below_set3 {B : Nat} {a w : World} (h : Below B a w) {b : Nat} (hb : B ≤ b) (hB : B ≤ a.heap.size) (u0 u1 u2 : Value) : Below B a (((w.setCell ⟨b, 0, none⟩ u0).setCell ⟨b, 1, none⟩ u1).setCell ⟨b, 2, none⟩ u2) :=
  h.grown (grown3 w b u0 u1 u2) (Nat.le_trans hB h.size) (fun j e => by injection e with e; omega)
theorem results_m {fn : Func} {W : World} {q k j : Nat} {x y z : Value} {tmps : Array Value} (h : fn.results = #[.cell k 26, .tmp j]) (h2 : tmps.getD k undef = .pointer (some ⟨q, 0, none⟩)) (hb : Blk W q 26 #[x, y, z]) :
    (results fn tmps).run Try.prog W = .ok (.tuple #[.agg #[x, y, z], tmps.getD j undef]) W := by
  have d0 := hb.cell (j := 0) rfl
  have d1 := hb.cell (j := 1) rfl
  have d2 := hb.cell (j := 2) rfl
  have h2' : tmps[k]?.getD undef = .pointer (some ⟨q, 0, none⟩) := by simpa using h2
  simp [results, h, h2', go_sem, d0, d1, d2]
theorem results_r {fn : Func} {W : World} {q k j : Nat} {x y z : Value} {tmps : Array Value} (h : fn.results = #[.cell k 25, .tmp j]) (h2 : tmps.getD k undef = .pointer (some ⟨q, 0, none⟩)) (hb : Blk W q 25 #[x, y, z]) :
    (results fn tmps).run Try.prog W = .ok (.tuple #[.agg #[x, y, z], tmps.getD j undef]) W := by
  have d0 := hb.cell (j := 0) rfl
  have d1 := hb.cell (j := 1) rfl
  have d2 := hb.cell (j := 2) rfl
  have h2' : tmps[k]?.getD undef = .pointer (some ⟨q, 0, none⟩) := by simpa using h2
  simp [results, h, h2', go_sem, d0, d1, d2]
theorem results_m1 {fn : Func} {W : World} {q k : Nat} {x y z : Value} {tmps : Array Value} (h : fn.results = #[.cell k 26]) (h2 : tmps.getD k undef = .pointer (some ⟨q, 0, none⟩)) (hb : Blk W q 26 #[x, y, z]) :
    (results fn tmps).run Try.prog W = .ok (.agg #[x, y, z]) W := by
  have d0 := hb.cell (j := 0) rfl
  have d1 := hb.cell (j := 1) rfl
  have d2 := hb.cell (j := 2) rfl
  have h2' : tmps[k]?.getD undef = .pointer (some ⟨q, 0, none⟩) := by simpa using h2
  simp [results, h, h2', go_sem, d0, d1, d2]
theorem results_r1 {fn : Func} {W : World} {q k : Nat} {x y z : Value} {tmps : Array Value} (h : fn.results = #[.cell k 25]) (h2 : tmps.getD k undef = .pointer (some ⟨q, 0, none⟩)) (hb : Blk W q 25 #[x, y, z]) :
    (results fn tmps).run Try.prog W = .ok (.agg #[x, y, z]) W := by
  have d0 := hb.cell (j := 0) rfl
  have d1 := hb.cell (j := 1) rfl
  have d2 := hb.cell (j := 2) rfl
  have h2' : tmps[k]?.getD undef = .pointer (some ⟨q, 0, none⟩) := by simpa using h2
  simp [results, h, h2', go_sem, d0, d1, d2]
end Sma
end Go.Proofs.Ytncapionioeieaa
