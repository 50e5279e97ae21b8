/- Layer 14: parts as they lie in memory; rows of parts that a call makes. -/
import Derived.Test.YtdcggnfplfgcnaaPlaM
import Derived.Test.YtdcggnfplfgcnaaBloW
import Derived.Test.YtdcggnfplfgcnaaSmaAr
import Derived.Test.YtdcggnfplfgcnaaFn
set_option linter.all false
namespace Go.Proofs.Ytdcggnfplfgcnaa
open Go.RowKit
namespace Pla
open Blo (I64 Dat Sml FitB dat_own)
open Sma (Pc Mp Mr mv runB)

abbrev pv (q : Pt) (d : Value) : List Value := [.int .i64 q.pc, .int .i64 q.nd, .int .i64 q.op.kind, .int .i64 q.op.off, .int .i64 q.op.len, d]
def pvs (L : List (Pt × Value)) : List Value := L.flatMap fun p => pv p.1 p.2
theorem pvs_nil : pvs [] = [] := rfl
theorem pvs_cons (p : Pt × Value) (L : List (Pt × Value)) : pvs (p :: L) = pv p.1 p.2 ++ pvs L := rfl
theorem pvs_app (L L' : List (Pt × Value)) : pvs (L ++ L') = pvs L ++ pvs L' := by simp [pvs]
theorem pvs_snoc (L : List (Pt × Value)) (p : Pt × Value) : pvs (L ++ [p]) = pvs L ++ pv p.1 p.2 := by rw [pvs_app]; simp [pvs]
theorem pvs_len : ∀ L : List (Pt × Value), (pvs L).length = L.length * 6
  | [] => rfl
  | p :: L => by rw [pvs_cons, List.length_append, pvs_len L, List.length_cons]; simp; omega
theorem pvs_at : ∀ {L : List (Pt × Value)} {k : Nat} (h : k < L.length) {j : Nat} (_ : j < 6), (pvs L)[k * 6 + j]? = (pv L[k].1 L[k].2)[j]?
  | p :: L, 0, _, j, hj => by
    rw [pvs_cons, List.getElem?_append_left (by simp; omega)]
    simp
  | p :: L, k + 1, h, j, hj => by
    rw [pvs_cons, List.getElem?_append_right (by simp; omega)]
    have e : (k + 1) * 6 + j - (pv p.1 p.2).length = k * 6 + j := by simp; omega
    rw [e, pvs_at (L := L) (by simpa using h) hj]
    simp
theorem pv_one (q : Pt) (X : Option Addr) (m c : Nat) : ∀ u ∈ pv q (.slice X m c), u.oneCell' = true := by
  intro u hu
  simp only [pv, List.mem_cons, List.not_mem_nil, or_false] at hu
  rcases hu with rfl | rfl | rfl | rfl | rfl | rfl <;> rfl
/-- A part's numbers, and the slice of its op's numbers. -/
structure DatV (w : World) (q : Pt) (d : Value) : Prop where
  pc : I64 q.pc
  nd : I64 q.nd
  dat : ∃ X m c, d = .slice X m c ∧ Dat w q.op X m c
theorem DatV.below {w w' : World} {q : Pt} {d : Value} (h : DatV w q d) (hb : Below w.heap.size w w') : DatV w' q d := by
  obtain ⟨X, m, c, e, hd⟩ := h.dat
  exact ⟨h.pc, h.nd, X, m, c, e, hd.below hb⟩
/-- The slice value '.slice A n _' reads as these parts. -/
structure Ptl (w : World) (A : Option Addr) (n : Nat) (L : List (Pt × Value)) : Prop where
  rd : Rd w A 6 n (pvs L)
  each : ∀ p ∈ L, DatV w p.1 p.2
theorem Ptl.len {w : World} {A : Option Addr} {n : Nat} {L : List (Pt × Value)} (h : Ptl w A n L) : n = L.length := by have := h.rd.1; rw [pvs_len] at this; omega
theorem Ptl.below {w w' : World} {A : Option Addr} {n : Nat} {L : List (Pt × Value)} (h : Ptl w A n L) (hb : Below w.heap.size w w') : Ptl w' A n L := ⟨h.rd.below hb, fun p hp => (h.each p hp).below hb⟩
theorem Ptl.alloc {w : World} {A : Option Addr} {n : Nat} {L : List (Pt × Value)} (h : Ptl w A n L) (o : Obj) : Ptl (w.alloc o) A n L := h.below ((Below.refl _ _).alloc (Nat.le_refl _) _)
theorem Ptl.drewN {w : World} {A : Option Addr} {n : Nat} {L : List (Pt × Value)} (h : Ptl w A n L) (k : Nat) : Ptl (w.drewN k) A n L := h.below (below_drewN (Below.refl _ _) k)
theorem Ptl.nil {w : World} {A : Option Addr} : Ptl w A 0 [] := ⟨Rd.nil, by simp⟩
/-- The cells of part k. -/
theorem Ptl.at_ {w : World} {A : Option Addr} {n : Nat} {L : List (Pt × Value)} (h : Ptl w A n L) {k : Nat} (hk : k < n) :
    ∃ b o q X m c, A = some ⟨b, o, none⟩ ∧ L[k]? = some (q, .slice X m c) ∧ I64 q.pc ∧ I64 q.nd ∧ Dat w q.op X m c ∧ w.cell? ⟨b, o + k * 6, none⟩ = some (.int .i64 q.pc) ∧ w.cell? ⟨b, o + k * 6 + 1, none⟩ = some (.int .i64 q.nd) ∧ w.cell? ⟨b, o + k * 6 + 2, none⟩ = some (.int .i64 q.op.kind) ∧ w.cell? ⟨b, o + k * 6 + 3, none⟩ = some (.int .i64 q.op.off) ∧ w.cell? ⟨b, o + k * 6 + 4, none⟩ = some (.int .i64 q.op.len) ∧ w.cell? ⟨b, o + k * 6 + 5, none⟩ = some (.slice X m c) := by
  have hl : k < L.length := by have := h.len; omega
  obtain ⟨e1, e2, X, m, c, e3, hd⟩ := h.each L[k] (List.getElem_mem hl)
  have g : ∀ j (u : Value), (pv L[k].1 L[k].2)[j]? = some u → ∃ b o, A = some ⟨b, o, none⟩ ∧ w.cell? ⟨b, o + k * 6 + j, none⟩ = some u := fun j u hu => by
    have hj : j < 6 := by have := (List.getElem?_eq_some_iff.1 hu).1; simpa using this
    obtain ⟨b, o, e, hc⟩ := h.rd.2 (k * 6 + j) u (by rw [pvs_at hl hj]; exact hu)
    exact ⟨b, o, e, by rw [Nat.add_assoc]; exact hc⟩
  obtain ⟨b, o, e, h0⟩ := g 0 _ rfl
  have g' : ∀ j (u : Value), (pv L[k].1 L[k].2)[j]? = some u → w.cell? ⟨b, o + k * 6 + j, none⟩ = some u := fun j u hu => by
    obtain ⟨b', o', e', hc⟩ := g j u hu
    rw [e] at e'
    injection e' with e'
    injection e' with e1 e2
    subst e1 e2
    exact hc
  refine ⟨b, o, L[k].1, X, m, c, e, ?_, e1, e2, hd, h0, g' 1 _ rfl, g' 2 _ rfl, g' 3 _ rfl, g' 4 _ rfl, ?_⟩
  · rw [List.getElem?_eq_getElem hl, ← e3]
  · rw [← e3]; exact g' 5 _ rfl
theorem info_pt : (Try.prog.info? 67).map (fun i => (i.zero, i.size, i.bytes)) = some (some (.agg #[.int .i64 0, .int .i64 0, .int .i64 0, .int .i64 0, .int .i64 0, .slice none 0 0]), 6, 64) := by kernel_rfl
theorem info_rpt : (Try.prog.info? 85).map (fun i => (i.zero, i.size, i.bytes)) = some (some (.agg #[.int .i64 0, .int .i64 0, .int .i64 0, .int .i64 0, .int .i64 0, .slice none 0 0]), 6, 64) := by kernel_rfl
theorem pt_info : ∃ i, Try.prog.info? 67 = some i ∧ i.zero = some (.agg #[.int .i64 0, .int .i64 0, .int .i64 0, .int .i64 0, .int .i64 0, .slice none 0 0]) ∧ i.size = 6 ∧ i.bytes = 64 := by
  obtain ⟨i, hi, he⟩ := Option.map_eq_some_iff.1 info_pt
  simp only [Prod.mk.injEq] at he
  exact ⟨i, hi, he.1, he.2.1, he.2.2⟩
theorem rpt_info : ∃ i, Try.prog.info? 85 = some i ∧ i.zero = some (.agg #[.int .i64 0, .int .i64 0, .int .i64 0, .int .i64 0, .int .i64 0, .slice none 0 0]) ∧ i.size = 6 ∧ i.bytes = 64 := by
  obtain ⟨i, hi, he⟩ := Option.map_eq_some_iff.1 info_rpt
  simp only [Prod.mk.injEq] at he
  exact ⟨i, hi, he.1, he.2.1, he.2.2⟩
/-- v is a row of the call's own, of parts, whose numbers lie in rows of the call's own. -/
structure Pl (w : World) (base : Nat) (t : TypeId) (v : Value) (n : Nat) (L : List (Pt × Value)) : Prop where
  row : w.ownsRow base t 6 v n (pvs L)
  data : ∀ p ∈ L, w.ownsRow base 64 1 p.2 p.1.op.data.length (nvs p.1.op.data)
theorem Pl.len {w : World} {base : Nat} {t : TypeId} {v : Value} {n : Nat} {L : List (Pt × Value)} (h : Pl w base t v n L) : n = L.length := by have := h.row.1; rw [pvs_len] at this; omega
theorem Pl.keep {w w' : World} {base : Nat} {t : TypeId} {v : Value} {n : Nat} {L : List (Pt × Value)} (h : Pl w base t v n L) (hb : Below w.heap.size w w') : Pl w' base t v n L := ⟨own_keep h.row hb, fun p hp => own_keep (h.data p hp) hb⟩
theorem Pl.nil (w : World) (base : Nat) (t : TypeId) : Pl w base t (.slice none 0 0) 0 [] := ⟨own_nil _ _ _ _, by simp⟩
theorem Pl.mono {w : World} {base base' : Nat} {t : TypeId} {v : Value} {n : Nat} {L : List (Pt × Value)} (h : Pl w base t v n L) (hb : base' ≤ base) : Pl w base' t v n L := ⟨h.row.mono hb, fun p hp => (h.data p hp).mono hb⟩
/-- A part more. -/
theorem pl_push {w w' : World} {base : Nat} {t : TypeId} (ht : t ≠ 64) {v v' : Value} {n : Nat} {L : List (Pt × Value)} {q : Pt} {d : Value} (h : Pl w base t v n L) (hg : w.grownBy w' v.ownBlock) (hr : w'.ownsRow base t 6 v' (n + 1) (pvs L ++ pv q d)) (hd : w.ownsRow base 64 1 d q.op.data.length (nvs q.op.data)) : Pl w' base t v' (n + 1) (L ++ [(q, d)]) := by
  have hne : ∀ {u : Value} {m : Nat} {xs : List Value}, w.ownsRow base 64 1 u m xs → ∀ k, u.ownBlock = some k → some k ≠ v.ownBlock := fun hu k hk e => own_ne h.row hu ht e.symm hk
  refine ⟨by rw [pvs_snoc]; exact hr, fun p hp => ?_⟩
  rcases List.mem_append.1 hp with hp | hp
  · exact own_grown (h.data p hp) hg (hne (h.data p hp))
  · rw [List.mem_singleton.1 hp]
    exact own_grown hd hg (hne hd)
/-- A small part: one that is told of a map. -/
structure SmlP (q : Pt) : Prop where
  pc : I64 q.pc
  nd : I64 q.nd
  op : Sml q.op
theorem Pl.ptl {w : World} {base : Nat} {t : TypeId} {A : Option Addr} {n c : Nat} {L : List (Pt × Value)} (h : Pl w base t (.slice A n c) n L) (hs : ∀ p ∈ L, SmlP p.1) : Ptl w A n L := by
  refine ⟨rd_own h.row, fun p hp => ⟨(hs p hp).pc, (hs p hp).nd, ?_⟩⟩
  have hd := h.data p hp
  obtain ⟨X, c', e, _, _, _⟩ := own_form hd
  rw [e] at hd
  exact ⟨X, _, c', e, dat_own hd (hs p hp).op⟩
theorem i64_of {z : Int} (h0 : -1000000 ≤ z) (h1 : z ≤ 1000000) : I64 z := by unfold I64; omega
theorem sml_part {o : BOp} {N : Int} (h : o.Ok N) (hN : N ≤ 1024) (hl : ∀ z ∈ o.data, z < 18446744073709551616) {l : List Pc} (hk : l.length ≤ 16) (hnd : ∀ p ∈ l, 0 ≤ p.nd ∧ p.nd < 16) {q : Pt} (hq : q ∈ partsL o o.cnt 0 l) : SmlP q := by
  obtain ⟨k, p, h1, h2, h3, h4, h5⟩ := parts_mem o o.cnt hq
  have hkl := (List.getElem?_eq_some_iff.1 h1).1
  have := hnd p (List.mem_of_getElem? h1)
  refine ⟨i64_of (by omega) (by omega), i64_of (by omega) (by omega), Blo.sml_of (part_ok h hq).1 hN ?_⟩
  rw [h4]
  intro z hz
  by_cases hw : o.kind = 1
  · rw [cut_write hw] at hz
    exact hl z (List.mem_of_mem_drop (List.mem_of_mem_take hz))
  · rw [cut_else hw] at hz
    simp at hz
theorem sml_read {a n N : Int} (h : 0 ≤ a ∧ 1 ≤ n ∧ a + n ≤ N) (hN : N ≤ 1024) {l : List Pc} (hk : l.length ≤ 16) (hnd : ∀ p ∈ l, 0 ≤ p.nd ∧ p.nd < 16) {q : Pt} (hq : q ∈ partsL (rdO a n) n 0 l) : SmlP q := by
  obtain ⟨k, p, h1, h2, h3, h4, h5⟩ := parts_mem (rdO a n) n hq
  have hkl := (List.getElem?_eq_some_iff.1 h1).1
  have := hnd p (List.mem_of_getElem? h1)
  have ho : (rdO a n).off = a := rfl
  rw [ho] at h4 h5
  rw [rd_cut] at h4
  refine ⟨i64_of (by omega) (by omega), i64_of (by omega) (by omega), ?_⟩
  rw [h4]
  exact ⟨⟨i64_of (by show (-1000000 : Int) ≤ 0; omega) (by show (0 : Int) ≤ 1000000; omega), i64_of (by show -1000000 ≤ max p.fr a; omega) (by show max p.fr a ≤ 1000000; omega), i64_of (by show -1000000 ≤ min p.en (a + n) - max p.fr a; omega) (by show min p.en (a + n) - max p.fr a ≤ 1000000; omega)⟩, by simp, by simp, by unfold BOp.from_ BOp.cnt; exact i64_of (by simp) (by simp), by show -2000 ≤ min p.en (a + n) - max p.fr a ∧ min p.en (a + n) - max p.fr a ≤ 2000; omega⟩
end Pla
end Go.Proofs.Ytdcggnfplfgcnaa
