/- Layer 11: streams, from their beginning to their end; lists of records with another base. -/
import Derived.Test.YtganoklclnbjkaaLanAr
set_option linter.all false
namespace Go.Proofs.Ytganoklclnbjkaa
open Go.RowKit
namespace Lan
open Str (Rec mayB opOf FitR Rdt Rcl RC ra rv rv8 rvs rvs_cons rvs_len oa k4 k8 rc_blk rc_of recOp tailR bldL bareR)
open Blo (I64 apL apE GotN AnsN)
/-- The berth behind so many records of a stream that nothing came between. -/
def stK (s0 : BS) (sn : Int) (v0 : List Nat) (ops : List BOp) (k : Nat) : BS := if k ≤ ops.length + 1 then { s0 with c := posA sn v0 ops k } else { s0 with num := sn, vol := apL v0 ops, c := a0, y := a0 }
theorem stK_0 {s0 : BS} {sn : Int} {v0 : List Nat} {ops : List BOp} (h : s0.c = a0) : stK s0 sn v0 ops 0 = s0 := by
  unfold stK
  rw [if_pos (by omega)]
  show { s0 with c := a0 } = s0
  rw [← h]
theorem stK_end {s0 : BS} {sn : Int} {v0 : List Nat} {ops : List BOp} {k : Nat} (h : k = ops.length + 2) : stK s0 sn v0 ops k = { s0 with num := sn, vol := apL v0 ops, c := a0, y := a0 } := by
  unfold stK
  rw [if_neg (by omega)]
theorem run_all {n : Nat} {hd : Rec} {ops : List BOp} {s0 : BS} {v0 : List Nat} {k : Nat} {r : Rec} (h : Stm n hd ops) (hn : s0.n = n) (hsh : hd.sh = s0.sh) (hma : hd.ma = s0.ve) (h0 : hd.sn ≠ 0) (h1 : hd.sn ≠ s0.num) (hl : v0.length = n) (hv : (hd.ba = 0 ∧ v0 = List.replicate n 0) ∨ (hd.ba = s0.num ∧ hd.ba ≠ 0 ∧ v0 = s0.vol)) (hr : (bldL hd ops)[k]? = some r) :
    takE (stK s0 hd.sn v0 ops k) (k : Int) r = 0 ∧ takS (stK s0 hd.sn v0 ops k) (k : Int) r = stK s0 hd.sn v0 ops (k + 1) := by
  rcases bld_at h.bare hr with ⟨rfl, hrd⟩ | ⟨j, hj, rfl, rfl⟩ | ⟨rfl, rfl⟩
  · rw [hrd]
    have e0 : stK s0 hd.sn v0 ops 0 = { s0 with c := a0 } := by unfold stK; rw [if_pos (by omega)]; rfl
    have e1 : stK s0 hd.sn v0 ops 1 = { s0 with c := posA hd.sn v0 ops 1 } := by unfold stK; rw [if_pos (by omega)]
    rw [e0, e1]
    exact take_head (s := { s0 with c := a0 }) h hn hsh hma rfl h0 h1 hv
  · have e0 : stK s0 hd.sn v0 ops (j + 1) = { s0 with c := posA hd.sn v0 ops (j + 1) } := by unfold stK; rw [if_pos (by omega)]
    have e1 : stK s0 hd.sn v0 ops (j + 1 + 1) = { s0 with c := posA hd.sn v0 ops (j + 2) } := by unfold stK; rw [if_pos (by omega)]
    rw [e0, e1]
    exact take_op (s := { s0 with c := posA hd.sn v0 ops (j + 1) }) h hn hj rfl
  · have e0 : stK s0 hd.sn v0 ops (ops.length + 1) = { s0 with c := posA hd.sn v0 ops (ops.length + 1) } := by unfold stK; rw [if_pos (by omega)]
    rw [e0, stK_end rfl]
    exact take_tail (s := { s0 with c := posA hd.sn v0 ops (ops.length + 1) }) h hn hl rfl
/-- While nothing comes no record but a Head is taken. -/
theorem take_idle {s : BS} {i : Int} {r : Rec} (h : s.c.ct = 0) (hi : i ≠ 0) : takE s i r ≠ 0 := by
  unfold takE
  split
  · decide
  · split
    · decide
    · unfold begE
      rw [if_pos hi]
      decide
/-- What is there is not taken again. -/
theorem take_there {s : BS} {i : Int} {r : Rec} (h : s.c.ct = 0) (hs : r.sn = s.num) : takE s i r ≠ 0 := by
  intro e
  unfold takE at e
  split at e
  · cases e
  · split at e
    · cases e
    · exact (beg_ok e).2.2.2.2.2.1 hs
theorem gotn_grown {w w' : World} {B g : Nat} {A : Option Addr} {m c : Nat} {l : List Nat} (h : GotN w B A m c l) (hg : w.grownBy w' (some g)) (hB : g < B) : GotN w' B A m c l :=
  ⟨own_grown h.own hg (fun j hj e => by injection e with e; have := (h.own.lt j hj).1; omega), h.low⟩
theorem rw_block {w : World} {base n c : Nat} {A : Option Addr} {L : List (Rec × Value)} (h : Rw w base (.slice A n c) n L) (hn : 0 < n) : ∃ g, A = some ⟨g, 0, none⟩ ∧ base ≤ g ∧ g < w.heap.size := by
  rcases h.row.2 with ⟨_, h0⟩ | ⟨g, cap, cur, e, hg, hh, _⟩
  · omega
  · injection e with e1 _ _
    subst e1
    exact ⟨g, rfl, hg, (Array.getElem?_eq_some_iff.1 hh).1⟩
/-- Another base in the first record. -/
theorem rw_base {w : World} {base n c g : Nat} {p : Rec × Value} {L : List (Rec × Value)} (h : Rw w base (.slice (some ⟨g, 0, none⟩) n c) n (p :: L)) (z : Int) (hz : I64 z) :
    Rw (w.setCell ⟨g, 3, none⟩ (.int .i64 z)) base (.slice (some ⟨g, 0, none⟩) n c) n (({ p.1 with ba := z }, p.2) :: L) ∧ w.cell? ⟨g, 3, none⟩ = some (.int .i64 p.1.ba) ∧ w.frozen? ⟨g, 3, none⟩ = false := by
  have hlen := h.len
  simp only [List.length_cons] at hlen
  rcases h.row.2 with ⟨_, h0⟩ | ⟨g', cap, cur, e, hg, hh, hnc, hcm, hcs, hx⟩
  · omega
  · injection e with e1 _ e3
    injection e1 with e1
    injection e1 with e1
    subst e1 e3
    have hb : Blk w g 29 cur := hh
    have hrl : (rvs (p :: L)).length = n * 8 := by rw [rvs_len, List.length_cons, ← hlen]
    have hsz : cur.size = c * 8 := hcs
    have hc3 : cur[3]? = some (.int .i64 p.1.ba) := by
      have h1 : (cur.toList.take (n * 8))[3]? = (rvs (p :: L))[3]? := by rw [hx]
      rw [List.getElem?_take, if_pos (by omega), Array.getElem?_toList] at h1
      rw [h1, rvs_cons]
      rfl
    refine ⟨⟨⟨?_, .inr ⟨g, c, cur.setIfInBounds 3 (.int .i64 z), rfl, hg, hb.setCell 3 _, hnc, hcm, by simpa using hcs, ?_⟩⟩, fun q hq => ?_⟩, hb.cell hc3, hb.free 3⟩
    · rw [rvs_len]; simp; omega
    · rw [Array.toList_setIfInBounds, List.take_set, hx, rvs_cons, rvs_cons]
      rfl
    · have hgw := grown_setCell w ⟨g, 3, none⟩ (.int .i64 z)
      rcases List.mem_cons.1 hq with rfl | hq
      · obtain ⟨X, m, c', e, hd, hX⟩ := h.data p (by simp)
        have hd' := rdt_grown hd hgw (fun a ha hm e => by have := hX a ha hm; injection e with e; simp only at e; omega)
        exact ⟨X, m, c', e, ⟨hd'.ns, hd'.nil, hd'.le, hd'.cap, hd'.by8, ⟨hd'.fit.k, hd'.fit.sh, hd'.fit.sn, hz, hd'.fit.ma, hd'.fit.off, hd'.fit.len⟩⟩, hX⟩
      · obtain ⟨X, m, c', e, hd, hX⟩ := h.data q (List.mem_cons_of_mem _ hq)
        exact ⟨X, m, c', e, rdt_grown hd hgw (fun a ha hm e => by have := hX a ha hm; injection e with e; simp only at e; omega), hX⟩
theorem bld_cons {hd : Rec} {ops : List BOp} {L : List (Rec × Value)} (h : L.map Prod.fst = bldL hd ops) : ∃ p L', L = p :: L' ∧ p.1 = bareR hd ∧ L'.map Prod.fst = ops.map recOp ++ [tailR ops.length] := by
  cases L with
  | nil => simp [bldL] at h
  | cons p L' =>
    unfold bldL at h
    rw [List.map_cons] at h
    injection h with h1 h2
    exact ⟨p, L', rfl, h1, h2⟩
theorem bulks_len {α : Type} (s : Shp α) (h : ∀ a, 1 ≤ s.bulk a) : ∀ l : List α, l.length ≤ bulks s l
  | [] => Nat.le_refl _
  | a :: l => by
    have h1 := h a
    have h2 := bulks_len s h l
    simp only [bulks, List.length_cons]
    omega
theorem op_bulk (a : Str.OpV) : 1 ≤ Str.opShp.bulk a := by show 1 ≤ _ + 1; omega
end Lan
end Go.Proofs.Ytganoklclnbjkaa
