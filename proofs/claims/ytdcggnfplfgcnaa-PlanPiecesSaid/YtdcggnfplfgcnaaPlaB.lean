/- Layer 14: which requests are refused; what lies of one between two blocks: plan's closures, the document's cut. -/
import Derived.Test.YtdcggnfplfgcnaaPlaA
set_option linter.all false
namespace Go.Proofs.Ytdcggnfplfgcnaa
open Go.RowKit
namespace Pla
open Blo (I64 Dat Sml FitB dat_own)
open Sma (Pc Mp Mr mv runB)

abbrev oa (o : BOp) (d : Value) : Value := .agg #[.int .i64 o.kind, .int .i64 o.off, .int .i64 o.len, d]
abbrev oo (o : BOp) (d : Value) : Obj := .cells #[.int .i64 o.kind, .int .i64 o.off, .int .i64 o.len, d] 27
abbrev mo (m : Mp) (A : Option Addr) (k c : Nat) : Obj := .cells #[.int .i64 m.v, .int .i64 m.n, .slice A k c] 33
abbrev rmo (m : Mp) (A : Option Addr) (k c : Nat) : Obj := .cells #[.int .i64 m.v, .int .i64 m.n, .slice A k c] 24
theorem smi {z : Int} (h : Sma.I64 z) : I64 z := h
theorem ns_cut {w : World} {g o n : Nat} {l : List Nat} (h : Ns w (some ⟨g, o, none⟩) n l) {k q : Nat} (hq : k + q ≤ n) : Ns w (some ⟨g, o + k, none⟩) q ((l.drop k).take q) := by
  have hl := h.len
  refine ⟨⟨by simp [nvs]; omega, fun j u hu => ?_⟩, fun z hz => h.2 z (List.mem_of_mem_drop (List.mem_of_mem_take hz))⟩
  have hj : j < q := by have := (List.getElem?_eq_some_iff.1 hu).1; simp [nvs] at this; omega
  have hu' : (nvs l)[k + j]? = some u := by
    simp only [nvs, List.getElem?_map] at hu ⊢
    rw [List.getElem?_take, if_pos hj, List.getElem?_drop] at hu
    exact hu
  obtain ⟨b, o', e, hc⟩ := h.1.2 _ u hu'
  injection e with e
  injection e with e1 e2
  subst e1 e2
  exact ⟨g, o + k, rfl, by rw [Nat.add_assoc]; exact hc⟩
theorem dat_alloc {w : World} {o : BOp} {X : Option Addr} {m c : Nat} (h : Dat w o X m c) (x : Obj) : Dat (w.alloc x) o X m c := h.below ((Below.refl _ _).alloc (Nat.le_refl _) _)
theorem opsE_arg {m : Mp} {o : BOp} (h : m.right = false) : opsE m o = 1 := by unfold opsE; rw [h]; rfl
theorem opsE_none {m : Mp} {o : BOp} (h : m.right = true) (h2 : o.right m.n = false) : opsE m o = 9 := by unfold opsE; rw [h, h2]; rfl
theorem opsE_ok {m : Mp} {o : BOp} (h : m.right = true) (h2 : o.right m.n = true) : opsE m o = 0 := by unfold opsE; rw [h, h2]; rfl
theorem cells4 {w : World} {b : Nat} {t : TypeId} {x y z d : Value} (h : Blk w b t #[x, y, z, d]) : w.cell? ⟨b, 0, none⟩ = some x ∧ w.cell? ⟨b, 1, none⟩ = some y ∧ w.cell? ⟨b, 2, none⟩ = some z ∧ w.cell? ⟨b, 3, none⟩ = some d ∧ w.frozen? ⟨b, 0, none⟩ = false ∧ w.frozen? ⟨b, 1, none⟩ = false ∧ w.frozen? ⟨b, 2, none⟩ = false ∧ w.frozen? ⟨b, 3, none⟩ = false :=
  ⟨h.cell rfl, h.cell rfl, h.cell rfl, h.cell rfl, h.free 0, h.free 1, h.free 2, h.free 3⟩
abbrev set4 (w : World) (b : Nat) (u0 u1 u2 u3 : Value) : World := (((w.setCell ⟨b, 0, none⟩ u0).setCell ⟨b, 1, none⟩ u1).setCell ⟨b, 2, none⟩ u2).setCell ⟨b, 3, none⟩ u3
theorem blk_set4 {w : World} {b : Nat} {t : TypeId} {x y z d : Value} (h : Blk w b t #[x, y, z, d]) (u0 u1 u2 u3 : Value) : Blk (set4 w b u0 u1 u2 u3) b t #[u0, u1, u2, u3] := by
  simpa using (((h.setCell 0 u0).setCell 1 u1).setCell 2 u2).setCell 3 u3
theorem grown4 (w : World) (b : Nat) (u0 u1 u2 u3 : Value) : w.grownBy (set4 w b u0 u1 u2 u3) (some b) :=
  (((grown_setCell w ⟨b, 0, none⟩ u0).trans (grown_setCell _ ⟨b, 1, none⟩ u1)).trans (grown_setCell _ ⟨b, 2, none⟩ u2)).trans (grown_setCell _ ⟨b, 3, none⟩ u3)
theorem below_set4 {B : Nat} {a w : World} (h : Below B a w) {b : Nat} (hb : B ≤ b) (hB : B ≤ a.heap.size) (u0 u1 u2 u3 : Value) : Below B a (set4 w b u0 u1 u2 u3) :=
  h.grown (grown4 w b u0 u1 u2 u3) (Nat.le_trans hB h.size) (fun j e => by injection e with e; omega)
/-- What is answered for one part's op: its numbers lie in a row of the call's own. -/
def CutAns (w w' : World) (e : Ending) (x : BOp) : Prop := ∃ d, e = .returned (oa x d) ∧ w'.ownsRow w.heap.size 64 1 d x.data.length (nvs x.data) ∧ Below w.heap.size w w'
section
variable (w : World)
set_option maxRecDepth 100000 in
set_option maxHeartbeats 1000000 in
theorem refuse_ (m : Mp) (A : Option Addr) (k c : Nat) (h : Mr w m A k c) (o : BOp) (X : Option Addr) (mm cc : Nat) (hd : Dat w o X mm cc) :
    Calls Try.prog 34 #[mv m A k c, oa o (.slice X mm cc)] w fun e w' => e = .returned (.int .i64 (opsE m o)) ∧ Below w.heap.size w w' := by
  have hn := h.n
  have hb1 := (Below.refl w.heap.size w).alloc (Nat.le_refl _) (mo m A k c)
  have hb2 : Below w.heap.size w ((w.alloc (mo m A k c)).alloc (oo o (.slice X mm cc))) := hb1.alloc (by simp) _
  have hm2 := (h.alloc (mo m A k c)).alloc (oo o (.slice X mm cc))
  have hd2 := dat_alloc (dat_alloc hd (mo m A k c)) (oo o (.slice X mm cc))
  have k1 : Blk ((w.alloc (mo m A k c)).alloc (oo o (.slice X mm cc))) w.heap.size 33 #[.int .i64 m.v, .int .i64 m.n, .slice A k c] := (Blk.new w _ _ rfl).alloc _
  have k2 : Blk ((w.alloc (mo m A k c)).alloc (oo o (.slice X mm cc))) (w.heap.size + 1) 27 #[.int .i64 o.kind, .int .i64 o.off, .int .i64 o.len, .slice X mm cc] := Blk.new _ _ _ (by simp)
  clear h hd hb1
  go_enter Try.func34, Try.ntmps34
  go_wp2_with fail
  refine (Sma.right_ _ m A k c hm2).mono ?_
  generalize ((w.alloc (mo m A k c)).alloc (oo o (.slice X mm cc))) = w1 at *
  cases hr : m.right with
  | false =>
    rintro e w2 ⟨rfl, hb3⟩
    have HE := Lib.hid (opsE_arg (o := o) hr)
    go_wp2
    go_ret
    rw [HE.out]
    exact ⟨rfl, below_step hb2 hb3 (Nat.le_refl _)⟩
  | true =>
    rintro e w2 ⟨rfl, hb3⟩
    have hB3 := below_step hb2 hb3 (Nat.le_refl _)
    have d1 := (k1.keep hb3).cell (j := 1) (u := .int .i64 m.n) rfl
    have e0 := (k2.keep hb3).cell (j := 0) (u := .int .i64 o.kind) rfl
    have e1 := (k2.keep hb3).cell (j := 1) (u := .int .i64 o.off) rfl
    have e2 := (k2.keep hb3).cell (j := 2) (u := .int .i64 o.len) rfl
    have e3 := (k2.keep hb3).cell (j := 3) (u := .slice X mm cc) rfl
    have hd3 := hd2.below hb3
    clear k1 k2 hd2 hm2 hb3
    go_wp2_with fail
    refine (Blo.right1_ _ m.n o X mm cc hn hd3).mono ?_
    cases ho : o.right m.n with
    | false =>
      have HE := Lib.hid (opsE_none hr ho)
      rintro e w3 ⟨rfl, hb4⟩
      go_wp2
      go_ret
      rw [HE.out]
      exact ⟨rfl, below_step hB3 hb4 (Nat.le_refl _)⟩
    | true =>
      have HE := Lib.hid (opsE_ok hr ho)
      rintro e w3 ⟨rfl, hb4⟩
      go_wp2
      go_ret
      rw [HE.out]
      exact ⟨rfl, below_step hB3 hb4 (Nat.le_refl _)⟩
set_option maxRecDepth 100000 in
set_option maxHeartbeats 1000000 in
theorem opf_ (o : BOp) (X : Option Addr) (m c : Nat) (hd : Dat w o X m c) {N : Int} (ho : o.Ok N) (hN : N ≤ 1024) (bo bf : Nat) (hbo : Blk w bo 27 #[.int .i64 o.kind, .int .i64 o.off, .int .i64 o.len, .slice X m c]) (hbf : Blk w bf 3 #[.int .i64 o.off]) (f t : Int) (hf : o.off ≤ f) (ht : t ≤ o.off + o.cnt) (hft : f < t) :
    Calls Try.prog 37 #[.int .i64 f, .int .i64 t, .pointer (some ⟨bo, 0, none⟩), .pointer (some ⟨bf, 0, none⟩)] w fun e w' => CutAns w w' e (cutO o f t) := by
  have h1 := ho.low
  have h2 := ho.high
  have b0 := (hbo.alloc (oo zO (.slice none 0 0))).cell (j := 0) (u := .int .i64 o.kind) rfl
  have b3 := (hbo.alloc (oo zO (.slice none 0 0))).cell (j := 3) (u := .slice X m c) rfl
  have c0 := (hbf.alloc (oo zO (.slice none 0 0))).cell (j := 0) (u := .int .i64 o.off) rfl
  simp only [zO] at b0 b3 c0
  have hwt : IntKind.i64.wrap (t - f) = t - f := by rw [IntKind.wrap_i64]; omega
  have hba := (Below.refl w.heap.size w).alloc (Nat.le_refl _) (oo zO (.slice none 0 0))
  rcases ho.form with ⟨k1, k2, k3⟩ | ⟨k1, k2⟩
  · have hc := cnt_write k1
    have hlen := hd.len
    obtain ⟨k, hk⟩ := Int.eq_ofNat_of_zero_le (show 0 ≤ f - o.off by omega)
    obtain ⟨q, hq⟩ := Int.eq_ofNat_of_zero_le (show 0 ≤ t - f by omega)
    have hkq : k + q ≤ m := by omega
    have hle := hd.le
    have hcap := hd.cap
    obtain ⟨g, p, _, rfl, _, _⟩ := Blo.ns_get hd.ns (i := 0) (by omega)
    have hcut := ns_cut hd.ns hkq
    have HD := Lib.hid (show cutO o f t = ⟨1, f, 0, (o.data.drop k).take q⟩ by rw [cut_write k1, hk, hq]; rfl)
    have hlq : ((o.data.drop k).take q).length = q := by rw [List.length_take, List.length_drop]; omega
    have HLq := Lib.hid hlq
    have hw1 : IntKind.i64.wrap (f - o.off) = (k : Int) := by rw [IntKind.wrap_i64]; omega
    have hw2 : IntKind.i64.wrap (t - o.off) = ((k + q : Nat) : Int) := by rw [IntKind.wrap_i64]; omega
    have t1 : (k : Int) ≤ (c : Int) := by omega
    have t2 : ¬ c = k := by omega
    have t3 : (0 : Int) ≤ (k : Int) := by omega
    have t5 : ((k + q : Nat) : Int) ≤ (c : Int) := by omega
    have t6 : (k : Int) ≤ ((k + q : Nat) : Int) := by omega
    have t7 : k ≤ c := by omega
    have t8 : k + q - k = q := by omega
    have hq8 : q * 8 ≤ 140737488355328 := by omega
    have hqc : q ≤ c - k := by omega
    have hck : c - k ≤ 9223372036854775807 := by omega
    have hcut1 := hcut.alloc (oo zO (.slice none 0 0))
    have hz1 := Blk.new w 27 #[.int .i64 0, .int .i64 0, .int .i64 0, .slice none 0 0] rfl
    clear hk hq hlq hd hcut k2 k3 hc hlen ho
    rw [k1] at b0
    go_enter Try.func37, Try.ntmps37
    go_wp2_with fail
    refine (Blo.clone_ _ (some ⟨g, p + k, none⟩) q (c - k) _ hcut1 (fun e => by cases e) hqc hck hq8).mono ?_
    rintro e w3 ⟨V, rfl, hO, hb3⟩
    have hz3 := hz1.keep hb3
    have hB3 := below_step hba hb3 (Nat.le_refl _)
    obtain ⟨A', c', rfl, -, -, -⟩ := own_form hO
    obtain ⟨z0, z1, z2, z3, y0, y1, y2, y3⟩ := cells4 hz3
    clear hz1 hbo hbf hcut1
    go_wp2
    refine bodyPost_ret (Blo.results_op (q := w.heap.size) rfl rfl (blk_set4 hz3 _ _ _ _)) rfl ?_
    rw [HD.out]
    refine ⟨_, rfl, ?_, below_set4 hB3 (Nat.le_refl _) (Nat.le_refl _) _ _ _ _⟩
    simp only [HLq.out]
    exact (own_grown hO (grown4 w3 w.heap.size _ _ _ _) (fun j hj e => by
      injection e with e
      have := (hO.lt j hj).1
      simp at this
      omega)).mono (by simp)
  · have HD := Lib.hid (show cutO o f t = ⟨2, f, t - f, []⟩ by rw [cut_else (by omega), k1])
    rw [k1] at b0
    go_enter Try.func37, Try.ntmps37
    go_wp2
    refine bodyPost_ret (Blo.results_op rfl rfl (Blk.new w 27 #[.int .i64 2, .int .i64 f, .int .i64 (t - f), .slice none 0 0] rfl)) rfl ?_
    rw [HD.out]
    exact ⟨_, rfl, own_nil _ _ _ _, (Below.refl _ _).alloc (Nat.le_refl _) _⟩
set_option maxRecDepth 100000 in
theorem readf_ (f t : Int) (h0 : 0 ≤ f) (h1 : f < t) (h2 : t ≤ 1024) :
    Calls Try.prog 42 #[.int .i64 f, .int .i64 t] w fun e w' => CutAns w w' e ⟨0, f, t - f, []⟩ := by
  have hwt : IntKind.i64.wrap (t - f) = t - f := by rw [IntKind.wrap_i64]; omega
  go_enter Try.func42, Try.ntmps42
  go_wp2
  refine bodyPost_ret (Blo.results_op rfl rfl (Blk.new w 27 #[.int .i64 0, .int .i64 f, .int .i64 (t - f), .slice none 0 0] rfl)) rfl ?_
  exact ⟨_, rfl, own_nil _ _ _ _, (Below.refl _ _).alloc (Nat.le_refl _) _⟩
end
end Pla
end Go.Proofs.Ytdcggnfplfgcnaa
