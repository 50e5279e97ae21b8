/- Layer 16: an end and the document's beside each other: every call of both. -/
import Derived.Test.YtlmaelbalmjlbaaSesAr
import Derived.Test.YtlmaelbalmjlbaaSesDc
import Derived.Test.YtlmaelbalmjlbaaSesDd
import Derived.Test.YtlmaelbalmjlbaaSesDe
set_option linter.all false
namespace Go.Proofs.Ytlmaelbalmjlbaa
open Go.RowKit
namespace Ses
open Net
theorem Rx.tw {w w' : World} {a b c : Nat} {e : En} (h : Rx w' c (fun k => Tw w a b k ∨ w.heap.size ≤ k) e) (ha : a < w.heap.size) (hb : b < w.heap.size) (hc : c = a ∨ c = b) : Rx w' c (Tw w' a b) e :=
  h.sub (fun k hk hl => hk.elim (fun q => ⟨q.1, q.2.1, hl⟩) (fun q => ⟨by omega, by omega, hl⟩)) (fun q => hc.elim (fun e => q.1 e) (fun e => q.2.1 e))
theorem Rx.tw2 {w w' : World} {a b c d : Nat} {e : En} (h : Rx w c (Tw w a b) e) (hf : Fu (fun k => k = d) w w') (hd : d = a ∨ d = b) (hc : c = a ∨ c = b) (hne : c ≠ d) : Rx w' c (Tw w' a b) e :=
  (h.fu hf (fun k hk q => hd.elim (fun e => hk.1 (q.trans e)) (fun e => hk.2.1 (q.trans e))) hne).sub (fun k hk hl => ⟨hk.1, hk.2.1, hl⟩) (fun q => hc.elim (fun e => q.1 e) (fun e => q.2.1 e))
/-- From what were others' blocks once to what are now. -/
theorem Ed.up {w w' : World} {a b c : Nat} {e : En} (h : Ed w' c (Tw w a b) e) (hc : c = a ∨ c = b) : Ed w' c (Tw w' a b) e := h.sub (fun k hk hl => ⟨hk.1, hk.2.1, hl⟩) (fun q => hc.elim (fun e => q.1 e) (fun e => q.2.1 e))
theorem Rx.up {w w' : World} {a b c : Nat} {e : En} (h : Rx w' c (Tw w a b) e) (hc : c = a ∨ c = b) : Rx w' c (Tw w' a b) e := h.sub (fun k hk hl => ⟨hk.1, hk.2.1, hl⟩) (fun q => hc.elim (fun e => q.1 e) (fun e => q.2.1 e))
/-- An end at b, the document's at r. -/
structure Two (w : World) (b r : Nat) (e f : En) : Prop where
  ed : Ed w b (Tw w b r) e
  rx : Rx w r (Tw w b r) f
  ne : b ≠ r
section
variable {w w' : World} {b r : Nat} {e f : En}
theorem Two.lt (h : Two w b r e f) : b < w.heap.size ∧ r < w.heap.size := ⟨h.ed.lt, h.rx.lt⟩
theorem Two.keep (h : Two w b r e f) (hb : Below w.heap.size w w') : Two w' b r e f := ⟨(h.ed.keep hb).up (.inl rfl), (h.rx.keep hb).up (.inr rfl), h.ne⟩
theorem Two.drewN (h : Two w b r e f) (k : Nat) : Two (w.drewN k) b r e f := h.keep (below_drewN (Below.refl _ _) k)
end
theorem quiet_two {f : FuncId} {args : Array Value} {w : World} {n : Nat} {v : Value} (h : Calls Try.prog f args (w.drewN n) fun e w' => e = .returned v ∧ w.drewN n = w') : Calls Try.prog f args (w.drewN n) fun e w'' => e = .returned v ∧ ∃ m, w'' = w.drewN m :=
  h.mono fun _ _ ⟨he, hm⟩ => ⟨he, n, hm.symm⟩
theorem mod4 {kd r : Nat} (h : kd % 4 = r) (j : Int) : ((kd : Int) % 4 == j) = decide (j = (r : Int)) := by
  by_cases e : j = (r : Int)
  · subst e; simp; omega
  · rw [decide_eq_false e, beq_eq_false_iff_ne]; omega
theorem aa_cells {w : World} {g : Nat} {T : TypeId} {a : Act} {u v : Value} (h : Blk w g T (aa a u v)) :
    w.cell? ⟨g, 0, none⟩ = some (.int .u8 (a.kd : Int)) ∧ w.cell? ⟨g, 1, none⟩ = some u ∧ w.cell? ⟨g, 2, none⟩ = some (.int .i64 a.m.fr) ∧ w.cell? ⟨g, 3, none⟩ = some (.int .i64 a.m.to) ∧ w.cell? ⟨g, 4, none⟩ = some (.int .i64 a.m.k) ∧ w.cell? ⟨g, 5, none⟩ = some (.int .i64 a.m.ep) ∧ w.cell? ⟨g, 6, none⟩ = some (.int .i64 a.m.sq) ∧ w.cell? ⟨g, 7, none⟩ = some (.int .i64 a.m.ac) ∧ w.cell? ⟨g, 8, none⟩ = some v ∧ w.cell? ⟨g, 9, none⟩ = some (.int .i64 a.ep) :=
  ⟨h.cell rfl, h.cell rfl, h.cell rfl, h.cell rfl, h.cell rfl, h.cell rfl, h.cell rfl, h.cell rfl, h.cell rfl, h.cell rfl⟩
theorem rd_lt3 {w : World} {A : Option Addr} {n : Nat} {d : List UInt8} (hr : Bs w A n d) : ∀ a, A = some a → 0 < n → a.block < w.heap.size := fun a ha hn => by
  obtain ⟨b, o, e, hx, hc⟩ := Rd.at_ hr hn
  rw [ha] at e
  injection e with e
  subst e
  exact cell_lt hc
theorem fu_cell3 {S : Nat → Prop} {w w' : World} (hf : Fu S w w') {p : Addr} {u : Value} (hc : w.cell? p = some u) (hs : ¬ S p.block) : w'.cell? p = some u := by
  have hb := hf.block p.block (cell_lt hc) hs
  unfold World.cell? at hc ⊢
  rw [hb]
  exact hc
/-- No more than i calls were made. -/
def Upto (i : Nat) (e : En) : Prop := e.l.length ≤ i ∧ e.c ≤ i
theorem upto_snd {i : Nat} {e : En} (h : Upto i e) (d : List UInt8) : Upto (i + 1) (sndS e d) := by
  unfold sndS
  split
  · exact ⟨by have := h.1; simp; omega, by have := h.2; show e.c ≤ i + 1; omega⟩
  · exact ⟨by have := h.1; omega, by have := h.2; omega⟩
theorem upto_stp {i : Nat} {e : En} (h : Upto i e) : Upto (i + 1) (stpS e) := ⟨by have := h.1; show e.l.length ≤ i + 1; omega, by have := h.2; show e.c ≤ i + 1; omega⟩
theorem upto_rcv {i : Nat} {e : En} (h : Upto i e) (m : Ms) : Upto (i + 1) (rcvS e m) := by
  unfold rcvS
  split
  · refine ⟨by have := h.1; show e.l.length ≤ i + 1; omega, ?_⟩
    have := h.2
    show (if isN e m then e.c + 1 else e.c) ≤ i + 1
    split <;> omega
  · exact ⟨by have := h.1; omega, by have := h.2; omega⟩
theorem upto_beg {i : Nat} {e : En} (h : Upto i e) (ep : Int) : Upto (i + 1) (begS e ep) := by
  unfold begS
  split
  · exact ⟨by simp [newS], by simp [newS]⟩
  · exact ⟨by have := h.1; omega, by have := h.2; omega⟩
/-- What Step, and Recv, of one of both answer, and leave. -/
def TStp (b : Nat) (l : List Ms) (R : World → Prop) (w w' : World) (z : Ending) : Prop :=
  ∃ v P, z = .returned v ∧ Prw w' w.heap.size v P ∧ P.map (·.1) = l ∧ R w' ∧ Fu (fun k => k = b) w w'
def TRcv (b : Nat) (d : List UInt8) (t : Bool) (y : Int) (R : World → Prop) (w w' : World) (z : Ending) : Prop :=
  ∃ v, z = .returned (.tuple #[v, .bool t, .int .i64 y]) ∧ w'.ownsRow w.heap.size 5 1 v d.length (bvs d) ∧ R w' ∧ Fu (fun k => k = b) w w'
section
variable (w : World)
theorem two_send (b r : Nat) (e f : En) (h : Two w b r e f) (X : Option Addr) (m c : Nat) (d : List UInt8) (hX : Bs w X m d) (hXn : X = none → m = 0 ∧ c = 0) (hmc : m ≤ c) (hc : c ≤ 9223372036854775807) :
    Calls Try.prog 12 #[.pointer (some ⟨b, 0, none⟩), .slice X m c] w fun z w' => z = .returned (.int .i64 (sndE e d)) ∧ Two w' b r (sndS e d) f ∧ Fu (fun k => k = b) w w' := by
  refine (send_ w b _ e h.ed X m c d hX hXn hmc hc).mono ?_
  rintro z w' ⟨rfl, h1, h2⟩
  exact ⟨rfl, ⟨h1.tw h.lt.1 h.lt.2 (.inl rfl), h.rx.tw2 h2 (.inl rfl) (.inr rfl) h.ne.symm, h.ne⟩, h2⟩
theorem two_rsend (b r : Nat) (e f : En) (h : Two w b r e f) (hl : f.l.length ≤ 2000000000000) (X : Option Addr) (m c : Nat) (d : List UInt8) (hX : Bs w X m d) (hXn : X = none → m = 0 ∧ c = 0) :
    Calls Try.prog 13 #[.pointer (some ⟨r, 0, none⟩), .slice X m c] w fun z w' => z = .returned (.int .i64 (sndE f d)) ∧ Two w' b r e (sndS f d) ∧ Fu (fun k => k = r) w w' := by
  refine (rsend_ w r _ f h.rx hl X m c d hX hXn).mono ?_
  rintro z w' ⟨rfl, h1, h2⟩
  exact ⟨rfl, ⟨h.ed.tw2 h2 (.inr rfl) (.inl rfl) h.ne, h1.tw h.lt.1 h.lt.2 (.inr rfl), h.ne⟩, h2⟩
theorem two_begin (b r : Nat) (e f : En) (h : Two w b r e f) (ep : Int) :
    Calls Try.prog 20 #[.pointer (some ⟨b, 0, none⟩), .int .i64 ep] w fun z w' => z = .returned (.int .i64 (begE e ep)) ∧ Two w' b r (begS e ep) f ∧ Fu (fun k => k = b) w w' := by
  refine (begin_ w b _ e h.ed ep).mono ?_
  rintro z w' ⟨rfl, h1, h2⟩
  exact ⟨rfl, ⟨h1.up (.inl rfl), h.rx.tw2 h2 (.inl rfl) (.inr rfl) h.ne.symm, h.ne⟩, h2⟩
theorem two_rbegin (b r : Nat) (e f : En) (h : Two w b r e f) (ep : Int) :
    Calls Try.prog 21 #[.pointer (some ⟨r, 0, none⟩), .int .i64 ep] w fun z w' => z = .returned (.int .i64 (begE f ep)) ∧ Two w' b r e (begS f ep) ∧ Fu (fun k => k = r) w w' := by
  refine (rbegin_ w r _ f h.rx ep).mono ?_
  rintro z w' ⟨rfl, h1, h2⟩
  exact ⟨rfl, ⟨h.ed.tw2 h2 (.inr rfl) (.inl rfl) h.ne, h1.up (.inr rfl), h.ne⟩, h2⟩
theorem two_step (b r : Nat) (e f : En) (h : Two w b r e f) (hl : e.l.length ≤ 2000000000000) (hc : e.c ≤ 1000000000000000000) :
    Calls Try.prog 15 #[.pointer (some ⟨b, 0, none⟩)] w fun z w' => TStp b (stpL e) (fun w' => Two w' b r (stpS e) f) w w' z := by
  refine (step_ w b _ e h.ed (fun k hk => hk.2.2) (by omega) hc).mono ?_
  rintro z w' ⟨v, P, rfl, h0, h1, h2, h3⟩
  exact ⟨v, P, rfl, h0, h1, ⟨h2.up (.inl rfl), h.rx.tw2 h3 (.inl rfl) (.inr rfl) h.ne.symm, h.ne⟩, h3⟩
theorem two_rstep (b r : Nat) (e f : En) (h : Two w b r e f) (hl : f.l.length ≤ 2000000000000) (hc : f.c ≤ 1000000000000000000) :
    Calls Try.prog 16 #[.pointer (some ⟨r, 0, none⟩)] w fun z w' => TStp r (stpL f) (fun w' => Two w' b r e (stpS f)) w w' z := by
  refine (rstep_ w r _ f h.rx (fun k hk => hk.2.2) hl hc).mono ?_
  rintro z w' ⟨v, P, rfl, h0, h1, h2, h3⟩
  exact ⟨v, P, rfl, h0, h1, ⟨h.ed.tw2 h3 (.inr rfl) (.inl rfl) h.ne, h2.up (.inr rfl), h.ne⟩, h3⟩
theorem two_recv (b r : Nat) (e f : En) (h : Two w b r e f) (hl : e.l.length ≤ 2000000000000) (hc : e.c ≤ 1000000000000000000) (m : Ms) (X : Option Addr) (n c : Nat) (hm : Mdt w m X n c) (hXb : ∀ a, X = some a → 0 < n → a.block ≠ b) :
    Calls Try.prog 17 #[.pointer (some ⟨b, 0, none⟩), .agg (ma m (.slice X n c))] w fun z w' => TRcv b (rcvD e m) (isN e m) (wrnE e m) (fun w' => Two w' b r (rcvS e m) f) w w' z := by
  refine (recv_ w b _ e h.ed (fun k hk => hk.2.2) (by omega) hc m X n c hm hXb).mono ?_
  rintro z w' ⟨v, rfl, h1, h2, h3⟩
  exact ⟨v, rfl, h1, ⟨h2.tw h.lt.1 h.lt.2 (.inl rfl), h.rx.tw2 h3 (.inl rfl) (.inr rfl) h.ne.symm, h.ne⟩, h3⟩
theorem two_rrecv (b r : Nat) (e f : En) (h : Two w b r e f) (hl : f.l.length ≤ 2000000000000) (hc : f.c ≤ 1000000000000000000) (m : Ms) (X : Option Addr) (n c : Nat) (hm : Mdt w m X n c) (hXb : ∀ a, X = some a → 0 < n → a.block ≠ r) :
    Calls Try.prog 18 #[.pointer (some ⟨r, 0, none⟩), .agg (ma m (.slice X n c))] w fun z w' => TRcv r (rcvD f m) (isN f m) (wrnE f m) (fun w' => Two w' b r e (rcvS f m)) w w' z := by
  refine (rrecv_ w r _ f h.rx (fun k hk => hk.2.2) hl hc m X n c hm hXb).mono ?_
  rintro z w' ⟨v, rfl, h1, h2, h3⟩
  exact ⟨v, rfl, h1, ⟨h.ed.tw2 h3 (.inr rfl) (.inl rfl) h.ne, h2.up (.inr rfl), h.ne⟩, h3⟩
end
end Ses
end Go.Proofs.Ytlmaelbalmjlbaa
