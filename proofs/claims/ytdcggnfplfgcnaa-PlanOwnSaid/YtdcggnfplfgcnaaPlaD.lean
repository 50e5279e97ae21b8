/- Layer 14: plan's Ops and Reads. -/
import Derived.Test.YtdcggnfplfgcnaaPlaC
set_option linter.all false
namespace Go.Proofs.Ytdcggnfplfgcnaa
open Go.RowKit
namespace Pla
open Blo (I64 Dat Sml FitB dat_own)
open Sma (Pc Mp Mr mv runB run_mem)

/-- Parts that were answered. -/
structure GotP (w : World) (B : Nat) (t : TypeId) (A : Option Addr) (n c : Nat) (L : List (Pt × Value)) : Prop where
  pl : Pl w B t (.slice A n c) n L
  sml : ∀ p ∈ L, SmlP p.1
theorem GotP.ptl {w : World} {B : Nat} {t : TypeId} {A : Option Addr} {n c : Nat} {L : List (Pt × Value)} (h : GotP w B t A n c L) : Ptl w A n L := h.pl.ptl h.sml
theorem GotP.keep {w w' : World} {B : Nat} {t : TypeId} {A : Option Addr} {n c : Nat} {L : List (Pt × Value)} (h : GotP w B t A n c L) (hb : Below w.heap.size w w') : GotP w' B t A n c L := ⟨h.pl.keep hb, h.sml⟩
theorem GotP.mono {w : World} {B B' : Nat} {t : TypeId} {A : Option Addr} {n c : Nat} {L : List (Pt × Value)} (h : GotP w B t A n c L) (hb : B' ≤ B) : GotP w B' t A n c L := ⟨h.pl.mono hb, h.sml⟩
theorem GotP.bounds {w : World} {B : Nat} {t : TypeId} {A : Option Addr} {n c : Nat} {L : List (Pt × Value)} (h : GotP w B t A n c L) : n ≤ c ∧ c ≤ 9223372036854775807 ∧ (A = none → n = 0 ∧ c = 0) := by
  obtain ⟨A', c', e, h1, h2, h3⟩ := own_form h.pl.row
  injection e with e1 _ e3
  subst e1 e3
  exact ⟨h1, by unfold maxLen at h2; omega, h3⟩
theorem GotP.nil (w : World) (B : Nat) (t : TypeId) : GotP w B t none 0 0 [] := ⟨Pl.nil _ _ _, by simp⟩
/-- What is answered: parts and an error's number. -/
def AnsP (w w' : World) (e : Ending) (t : TypeId) (er : Int) (l : List Pt) : Prop := ∃ A n c L, e = .returned (.tuple #[.slice A n c, .int .i64 er]) ∧ GotP w' w.heap.size t A n c L ∧ L.map Prod.fst = l ∧ Below w.heap.size w w'
theorem opsL_no {m : Mp} {o : BOp} (h : m.right = false ∨ o.right m.n = false) : opsL m o = [] := by
  unfold opsL
  rcases h with h | h
  · rw [h]; rfl
  · rw [h]; simp
theorem opsL_ok {m : Mp} {o : BOp} (h : m.right = true) (h2 : o.right m.n = true) : opsL m o = partsL o o.cnt 0 m.ps := by unfold opsL; rw [h, h2]; rfl
theorem readsL_no {m : Mp} {a n : Int} (h : m.right = false ∨ (trO a n).right m.n = false) : readsL m a n = [] := by
  unfold readsL
  rcases h with h | h
  · rw [h]; rfl
  · rw [h]; simp
theorem readsL_ok {m : Mp} {a n : Int} (h : m.right = true) (h2 : (trO a n).right m.n = true) : readsL m a n = partsL (rdO a n) n 0 m.ps := by unfold readsL; rw [h, h2]; rfl
theorem right_nd {m : Mp} (h : m.right = true) : m.ps.length ≤ 16 ∧ ∀ p ∈ m.ps, 0 ≤ p.nd ∧ p.nd < 16 := by
  obtain ⟨_, _, h3, h4⟩ := Sma.right_is h
  exact ⟨h3, fun p hp => (run_mem h4 p hp).2.2.2⟩
theorem ops_sml {m : Mp} {o : BOp} (hr : m.right = true) (ho : o.right m.n = true) (hl : ∀ z ∈ o.data, z < 18446744073709551616) {q : Pt} (hq : q ∈ partsL o o.cnt 0 m.ps) : SmlP q := by
  obtain ⟨h1, _, h3⟩ := ok_of_right ho
  exact sml_part h1 h3 hl (right_nd hr).1 (right_nd hr).2 hq
theorem reads_sml {m : Mp} {a n : Int} (hr : m.right = true) (ho : (trO a n).right m.n = true) {q : Pt} (hq : q ∈ partsL (rdO a n) n 0 m.ps) : SmlP q := by
  obtain ⟨h1, _, h3⟩ := ok_of_right ho
  exact sml_read (tr_ok ho) h3 (right_nd hr).1 (right_nd hr).2 hq
theorem sml_of_map {L : List (Pt × Value)} {l : List Pt} (e : L.map Prod.fst = l) (h : ∀ q ∈ l, SmlP q) : ∀ p ∈ L, SmlP p.1 := fun p hp => h _ (by rw [← e]; exact List.mem_map.2 ⟨p, hp, rfl⟩)
theorem dat_tr (w : World) {a n : Int} (ha : I64 a) (hn : I64 n) : Dat w (trO a n) none 0 0 := ⟨Ns.nil, fun _ => ⟨rfl, rfl⟩, Nat.le_refl _, by omega, by omega, ⟨by unfold I64 trO; simp, ha, hn⟩⟩
section
variable (w : World)
set_option maxRecDepth 100000 in
set_option maxHeartbeats 2000000 in
theorem ops_ (m : Mp) (A : Option Addr) (k c : Nat) (h : Mr w m A k c) (o : BOp) (X : Option Addr) (mm cc : Nat) (hd : Dat w o X mm cc) :
    Calls Try.prog 10 #[mv m A k c, oa o (.slice X mm cc)] w fun e w' => AnsP w w' e 67 (opsE m o) (opsL m o) := by
  have hb1 := (Below.refl w.heap.size w).alloc (Nat.le_refl _) (mo m A k c)
  have hb2 : Below w.heap.size w ((w.alloc (mo m A k c)).alloc (oo o (.slice X mm cc))) := hb1.alloc (by simp) _
  have hm2 := (h.alloc (mo m A k c)).alloc (oo o (.slice X mm cc))
  have hd2 := dat_alloc (dat_alloc hd (mo m A k c)) (oo o (.slice X mm cc))
  have k1 : Blk ((w.alloc (mo m A k c)).alloc (oo o (.slice X mm cc))) w.heap.size 33 #[.int .i64 m.v, .int .i64 m.n, .slice A k c] := (Blk.new w _ _ rfl).alloc _
  have k2 : Blk ((w.alloc (mo m A k c)).alloc (oo o (.slice X mm cc))) (w.heap.size + 1) 27 #[.int .i64 o.kind, .int .i64 o.off, .int .i64 o.len, .slice X mm cc] := Blk.new _ _ _ (by simp)
  have hlow := hd.ns.2
  obtain ⟨m0, m1, m2, -, -, -⟩ := Sma.cells3 k1
  obtain ⟨n0, n1, n2, n3, -, -, -, -⟩ := cells4 k2
  clear h hd hb1
  go_enter Try.func10, Try.ntmps10
  go_wp2_with fail
  refine (refuse_ _ m A k c hm2 o X mm cc hd2).mono ?_
  clear m0 m1 m2 n0 n1 n2 n3
  generalize ((w.alloc (mo m A k c)).alloc (oo o (.slice X mm cc))) = w1 at *
  cases hr : m.right with
  | false =>
    rw [opsE_arg hr]
    have HE := Lib.hid (opsE_arg (o := o) hr)
    have HQ := Lib.hid (opsL_no (o := o) (.inl hr))
    rintro e w2 ⟨rfl, hb3⟩
    go_wp2
    go_ret2
    rw [HE.out, HQ.out]
    exact ⟨none, 0, 0, [], rfl, GotP.nil _ _ _, rfl, below_step hb2 hb3 (Nat.le_refl _)⟩
  | true =>
    cases ho : o.right m.n with
    | false =>
      rw [opsE_none hr ho]
      have HE := Lib.hid (opsE_none hr ho)
      have HQ := Lib.hid (opsL_no (.inr ho))
      rintro e w2 ⟨rfl, hb3⟩
      go_wp2
      go_ret2
      rw [HE.out, HQ.out]
      exact ⟨none, 0, 0, [], rfl, GotP.nil _ _ _, rfl, below_step hb2 hb3 (Nat.le_refl _)⟩
    | true =>
      rw [opsE_ok hr ho]
      have HE := Lib.hid (opsE_ok hr ho)
      have HQ := Lib.hid (opsL_ok hr ho)
      rintro e w2 ⟨rfl, hb3⟩
      obtain ⟨hok, hn0, hn1⟩ := ok_of_right ho
      have hB3 := below_step hb2 hb3 (Nat.le_refl _)
      have k13 := k1.keep hb3
      have k23 := k2.keep hb3
      have hd3 := hd2.below hb3
      have hm3 := hm2.below hb3
      obtain ⟨n0, n1, n2, n3, -, -, -, -⟩ := cells4 k23
      have hrg := Blo.range_ w2 o X mm cc hd3
      rw [from_ok hok] at hrg
      have Hsm := Lib.hid (fun q hq => ops_sml hr ho hlow (q := q) hq)
      clear k1 k2 hd2 hm2 hb3 ho
      go_wp2_with fail
      refine hrg.mono ?_
      rintro e w3 ⟨rfl, hb4⟩
      have hB4 := below_step hB3 hb4 (Nat.le_refl _)
      have hbo : Below w3.heap.size w3 (w3.alloc (.cells #[.int .i64 o.off] 3)) := (Below.refl _ _).alloc (Nat.le_refl _) _
      have k14 := (k13.keep hb4).keep hbo
      have k24 := (k23.keep hb4).keep hbo
      have k34 := Blk.new w3 3 #[.int .i64 o.off] rfl
      have hd4 := (hd3.below hb4).below hbo
      have hm4 := (hm3.below hb4).below hbo
      have hB5 := below_step hB4 hbo (Nat.le_refl _)
      clear hrg n0 n1 n2 n3 k13 k23 hd3 hm3 hbo
      obtain ⟨m0, m1, m2, -, -, -⟩ := Sma.cells3 k14
      have o0 := k34.cell (j := 0) (u := .int .i64 o.off) rfl
      have hlo := hok.low
      have hhi := hok.high
      have hso := hok.some
      go_wp2_with fail
      refine (cut_ops _ m A k c hm4 hr o o.cnt hlo hso (by omega) (w.heap.size + 1) w3.heap.size (fun w' f t hb e1 e2 e3 => opf_ w' o X mm cc (hd4.below hb) hok hn1 (w.heap.size + 1) w3.heap.size (k24.keep hb) (k34.keep hb) f t e1 e2 e3)).mono ?_
      rintro e w4 ⟨A', n', c', L, rfl, hPl, hL, hb6⟩
      have HL := Lib.hid hL
      clear hL
      go_wp2
      go_ret2
      rw [HE.out, HQ.out]
      exact ⟨A', n', c', L, rfl, ⟨hPl.mono hB5.size, sml_of_map HL.out Hsm.out⟩, HL.out, below_step hB5 hb6 (Nat.le_refl _)⟩
set_option maxRecDepth 100000 in
set_option maxHeartbeats 2000000 in
theorem reads_ (m : Mp) (A : Option Addr) (k c : Nat) (h : Mr w m A k c) (a n : Int) (ha : I64 a) (hn : I64 n) :
    Calls Try.prog 13 #[mv m A k c, .int .i64 a, .int .i64 n] w fun e w' => AnsP w w' e 67 (readsE m a n) (readsL m a n) := by
  have hb1 := (Below.refl w.heap.size w).alloc (Nat.le_refl _) (mo m A k c)
  have hm1 := h.alloc (mo m A k c)
  have k1 : Blk (w.alloc (mo m A k c)) w.heap.size 33 #[.int .i64 m.v, .int .i64 m.n, .slice A k c] := Blk.new w _ _ rfl
  obtain ⟨m0, m1, m2, -, -, -⟩ := Sma.cells3 k1
  clear h
  go_enter Try.func13, Try.ntmps13
  go_wp2_with fail
  refine (refuse_ _ m A k c hm1 (trO a n) none 0 0 (dat_tr _ ha hn)).mono ?_
  clear m0 m1 m2
  generalize (w.alloc (mo m A k c)) = w1 at *
  cases hr : m.right with
  | false =>
    rw [opsE_arg hr]
    have HE := Lib.hid (opsE_arg (o := trO a n) hr)
    have HQ := Lib.hid (readsL_no (a := a) (n := n) (.inl hr))
    rintro e w2 ⟨rfl, hb3⟩
    go_wp2
    go_ret2
    rw [show readsE m a n = opsE m (trO a n) from rfl, HE.out, HQ.out]
    exact ⟨none, 0, 0, [], rfl, GotP.nil _ _ _, rfl, below_step hb1 hb3 (Nat.le_refl _)⟩
  | true =>
    cases ho : (trO a n).right m.n with
    | false =>
      rw [opsE_none hr ho]
      have HE := Lib.hid (opsE_none hr ho)
      have HQ := Lib.hid (readsL_no (.inr ho))
      rintro e w2 ⟨rfl, hb3⟩
      go_wp2
      go_ret2
      rw [show readsE m a n = opsE m (trO a n) from rfl, HE.out, HQ.out]
      exact ⟨none, 0, 0, [], rfl, GotP.nil _ _ _, rfl, below_step hb1 hb3 (Nat.le_refl _)⟩
    | true =>
      rw [opsE_ok hr ho]
      have HE := Lib.hid (opsE_ok hr ho)
      have HQ := Lib.hid (readsL_ok hr ho)
      rintro e w2 ⟨rfl, hb3⟩
      obtain ⟨h0, h1, h2⟩ := tr_ok ho
      obtain ⟨-, -, hn1⟩ := ok_of_right ho
      have hB3 := below_step hb1 hb3 (Nat.le_refl _)
      have hm3 := hm1.below hb3
      obtain ⟨m0, m1, m2, -, -, -⟩ := Sma.cells3 (k1.keep hb3)
      have Hsm := Lib.hid (fun q hq => reads_sml hr ho (q := q) hq)
      clear k1 hm1 hb3 ho
      go_wp2_with fail
      refine (cut_reads w2 m A k c hm3 hr (rdO a n) n h0 h1 (show a + n ≤ 1024 by omega) (fun w' f t hb e1 e2 e3 => by
        rw [rd_cut]
        have e1 : a ≤ f := e1
        have e2 : t ≤ a + n := e2
        exact readf_ w' f t (by omega) e3 (by omega))).mono ?_
      rintro e w4 ⟨A', n', c', L, rfl, hPl, hL, hb6⟩
      have HL := Lib.hid hL
      clear hL
      go_wp2
      go_ret2
      rw [show readsE m a n = opsE m (trO a n) from rfl, HE.out, HQ.out]
      exact ⟨A', n', c', L, rfl, ⟨hPl.mono hB3.size, sml_of_map HL.out Hsm.out⟩, HL.out, below_step hB3 hb6 (Nat.le_refl _)⟩
end
end Pla
end Go.Proofs.Ytdcggnfplfgcnaa
