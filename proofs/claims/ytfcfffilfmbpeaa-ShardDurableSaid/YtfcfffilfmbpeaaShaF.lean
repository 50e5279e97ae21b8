/- Layer 12: Crash. -/
import Derived.Test.YtfcfffilfmbpeaaShaE
set_option linter.all false
namespace Go.Proofs.Ytfcfffilfmbpeaa
open Go.RowKit Go.Maps
namespace Sha
open Blo (vol fun_ GotN AnsN Dat FitB)

/-- Truths, read. -/
def bls (l : List Bool) : List Value := l.map Value.bool
theorem kept_step : ∀ (l : List BOp) (ks : List Bool) (i : Nat) (o : BOp), l[i]? = some o → kept (l.take (i + 1)) ks = kept (l.take i) ks ++ (if ks[i]? = some true then [o] else [])
  | [], _, _, _, h => by simp at h
  | x :: l, [], i, o, h => by
    have h1 : kept ((x :: l).take (i + 1)) [] = [] := kept_nil _
    have h2 : kept ((x :: l).take i) [] = [] := kept_nil _
    rw [h1, h2]; simp
  | x :: l, k :: ks, 0, o, h => by
    simp only [List.getElem?_cons_zero, Option.some.injEq] at h
    subst h
    cases k <;> simp [kept]
  | x :: l, k :: ks, i + 1, o, h => by
    simp only [List.getElem?_cons_succ] at h ⊢
    have ih := kept_step l ks i o h
    cases k <;> simp [kept, ih]
/-- Some of the open ops have been looked at. -/
structure CrX (w wr : World) (B : Nat) (U : Nat → Prop) (b : Nat) (s : SS) (k : CS) (ks : List Bool) (i r : Nat) (lsx : List Root) : Prop where
  x : ShX wr B U b s { k with ls := lsx }
  fr : Fr B U w wr
  few : lsx.length ≤ k.ls.length + i
  shw : Shw s.n lsx k.u r ((kept (s.opn.take i) ks).foldl apv s.sure)
def CrAt (w wr : World) (B : Nat) (U : Nat → Prop) (b : Nat) (s : SS) (k : CS) (ks : List Bool) (i r : Nat) : Prop := ∃ lsx, CrX w wr B U b s k ks i r lsx
section
variable (w : World) (B b : Nat) (U : Nat → Prop) (s : SS)
set_option maxRecDepth 100000 in
set_option maxHeartbeats 2000000 in
theorem crash_ (h : Sh w B U b s) (KA : Option Addr) (kn kc : Nat) (ks : List Bool) (hk : ∀ w', Fr B U w w' → Rd w' KA 1 kn (bls ks)) (hkn : kn ≤ 9223372036854775807) :
    Calls Try.prog 17 #[.pointer (some ⟨b, 0, none⟩), .slice KA kn kc] w fun e w' => e = .returned (.tuple #[]) ∧ Nx w w' B U b (crS s ks) := by
  have hU := h.ulow
  have hBw := h.base
  have hok := h.ok
  obtain ⟨k, h, ht⟩ := h
  have hop := h.r.ops.length
  have hfew := hok.few
  have hkl : ks.length = kn := by have := (hk w (Fr.refl _ _ _)).1; simp [bls] at this; omega
  obtain ⟨OA, oc, hov, ho1, ho2, ho3⟩ := own_form h.r.orow
  have c5 := h.cell (j := 5) (u := .int .i64 (k.sure : Int)) rfl
  have c6 : w.cell? ⟨b, 6, none⟩ = some (.slice OA k.oc.length oc) := by rw [← hov]; exact h.cell rfl
  have hmade := h.made
  have hAt : CrAt w w B U b s k ks 0 k.sure := ⟨k.ls, h, Fr.refl _ _ _, by omega, by simpa [kept] using h.r.sure⟩
  obtain ⟨m, hm⟩ : ∃ m, k.oc.length = m := ⟨_, rfl⟩
  rw [hm] at c6
  have Hm := Lib.hid hm
  have Hop := Lib.hid hop
  have Hkl := Lib.hid hkl
  have hm256 : m ≤ 256 := by omega
  clear h hm hop hkl ho1 ho3
  go_enter Try.func17, Try.ntmps17
  go_wp2_with fail
  refine hmade.mono ?_
  rintro e w' ⟨rfl, rfl⟩
  go_wp2_with fail
  go_loopw [4, 19] (fun rv iv wr => ∃ i r : Nat, i ≤ m ∧ iv = .int .i64 (i : Int) ∧ rv = .int .i64 (r : Int) ∧ CrAt w wr B U b s k ks i r) (fun _ iv _ => m - (intOf iv).toNat)
  case atStart => exact ⟨0, k.sure, Nat.zero_le _, rfl, rfl, hAt⟩
  case round =>
    obtain ⟨i, r, hi, rfl, rfl, lsx, hC⟩ := hrel
    by_cases hlt : i < m
    · have hil : (i : Int) < (m : Int) := by omega
      have hi0 : (0 : Int) ≤ (i : Int) := by omega
      have hik : i < k.oc.length := by rw [Hm.out]; exact hlt
      obtain ⟨ch, hch⟩ : ∃ q, k.oc[i]? = some q := ⟨_, List.getElem?_eq_getElem hik⟩
      obtain ⟨o, hoi, hco⟩ := hC.x.r.ops.get hch
      obtain ⟨g, hOA, hcs⟩ : ∃ g, OA = some ⟨g, 0, none⟩ ∧ ∀ j u, (cvl ch)[j]? = some u → wr.cell? ⟨g, i * 5 + j, none⟩ = some u := by
        rcases hC.x.r.orow.2 with ⟨_, h0⟩ | ⟨g, cap, cur, e, _, hh, _, _, _, hx⟩
        · have : k.oc.length = 0 := h0
          omega
        · have e' : k.ov = _ := e
          rw [hov] at e'
          injection e' with e1 _ _
          refine ⟨g, e1, fun j u hu => Blk.cell (show Blk wr g _ cur from hh) ?_⟩
          have h1 := cvs_at hch j u hu
          have hx' : cur.toList.take (k.oc.length * 5) = cvs k.oc := hx
          rw [← hx', List.getElem?_take] at h1
          split at h1
          · simpa using h1
          · cases h1
      subst hOA
      have q0 := hcs 0 _ rfl
      have q1 := hcs 1 _ rfl
      have q2 := hcs 2 _ rfl
      have q3 := hcs 3 _ rfl
      have q4 := hcs 4 _ rfl
      rw [Nat.add_zero] at q0
      clear hcs
      have hrk := hk wr hC.fr
      obtain ⟨wA, hwA⟩ : ∃ wA, wr.alloc (.cells #[.int .i64 0, .int .i64 0, .int .i64 0, .int .i64 0, .int .i64 0] 79) = wA := ⟨_, rfl⟩
      have hv0 := Blk.new wr 79 #[.int .i64 0, .int .i64 0, .int .i64 0, .int .i64 0, .int .i64 0] rfl
      have hbA : Below wr.heap.size wr (wr.alloc (.cells #[.int .i64 0, .int .i64 0, .int .i64 0, .int .i64 0, .int .i64 0] 79)) := (Below.refl _ _).alloc (Nat.le_refl _) _
      rw [hwA] at hv0 hbA
      have d0 := hv0.cell (j := 0) (u := .int .i64 0) rfl
      have d1 := hv0.cell (j := 1) (u := .int .i64 0) rfl
      have d2 := hv0.cell (j := 2) (u := .int .i64 0) rfl
      have d3 := hv0.cell (j := 3) (u := .int .i64 0) rfl
      have d4 := hv0.cell (j := 4) (u := .int .i64 0) rfl
      have f0 := hv0.free 0
      have f1 := hv0.free 1
      have f2 := hv0.free 2
      have f3 := hv0.free 3
      have f4 := hv0.free 4
      obtain ⟨wB, hwB⟩ : ∃ wB, ((((wA.setCell ⟨wr.heap.size, 0, none⟩ (.int .i64 ch.kind)).setCell ⟨wr.heap.size, 1, none⟩ (.int .i64 ch.x.off)).setCell ⟨wr.heap.size, 2, none⟩ (.int .i64 ch.x.len)).setCell ⟨wr.heap.size, 3, none⟩ (.int .i64 ch.x.phys)).setCell ⟨wr.heap.size, 4, none⟩ (.int .i64 ch.x.birth) = wB := ⟨_, rfl⟩
      have hvB := set5 hv0 (.int .i64 ch.kind) (.int .i64 ch.x.off) (.int .i64 ch.x.len) (.int .i64 ch.x.phys) (.int .i64 ch.x.birth)
      have hgB := gset5 wA wr.heap.size 0 1 2 3 4 (.int .i64 ch.kind) (.int .i64 ch.x.off) (.int .i64 ch.x.len) (.int .i64 ch.x.phys) (.int .i64 ch.x.birth)
      rw [hwB] at hvB hgB
      have hB : Below wr.heap.size wr wB := hbA.grown hgB hbA.size fun j hj => by injection hj with hj; omega
      clear hbA hv0 hgB
      have hCB : CrX w wB B U b s k ks i r lsx := ⟨hC.x.below hB, hC.fr.then (U' := fun _ => False) (Fr.ofBelow hB (Nat.le_trans hBw hC.fr.size)) (fun j hj => hj.elim), hC.few, hC.shw⟩
      have hws : w.heap.size ≤ wr.heap.size := hC.fr.size
      have hstep := kept_step s.opn ks i o hoi
      have hfewx := hC.few
      have hlsx : lsx.length < 3000 := by omega
      have hvU : ¬ U wr.heap.size := fun e => by have := (hU _ e).2; omega
      clear hC
      by_cases hik2 : i < kn
      · have hikI : (i : Int) < (kn : Int) := by omega
        obtain ⟨kb, ko, hKA, hx, hcell⟩ := (hrk.below hB).at_ hik2
        subst hKA
        obtain ⟨z, hz⟩ : ∃ z, ks[i]? = some z := ⟨_, List.getElem?_eq_getElem (by rw [Hkl.out]; exact hik2)⟩
        have hkc : wB.cell? ⟨kb, ko + i, none⟩ = some (.bool z) := by
          rw [hcell]
          have h4 : (bls ks)[i]? = some (.bool z) := by unfold bls; rw [List.getElem?_map, hz]; rfl
          exact (List.getElem?_eq_getElem hx).symm.trans h4
        clear hcell hx hrk
        cases z with
        | false =>
          rw [hz, if_neg (by simp), List.append_nil] at hstep
          have hNext : CrAt w wB B U b s k ks (i + 1) r := ⟨lsx, hCB.x, hCB.fr, by have := hCB.few; omega, by rw [hstep]; exact hCB.shw⟩
          clear hCB hvB hB
          go_wp2
          go_roundw
          case rel => exact ⟨i + 1, r, by omega, by go_num, rfl, hNext⟩
          case measure => simp [intOf]; omega
        | true =>
          rw [hz, if_pos rfl] at hstep
          have v0 := hvB.cell (j := 0) (u := .int .i64 ch.kind) rfl
          have v1 := hvB.cell (j := 1) (u := .int .i64 ch.x.off) rfl
          have v2 := hvB.cell (j := 2) (u := .int .i64 ch.x.len) rfl
          have v3 := hvB.cell (j := 3) (u := .int .i64 ch.x.phys) rfl
          have v4 := hvB.cell (j := 4) (u := .int .i64 ch.x.birth) rfl
          have hdo := hCB.x.drew.do_ r _ hCB.shw ch o hco hlsx
          go_wp2_with fail
          go_region_held3 (fun w' => w'.cell? ⟨wr.heap.size, 0, none⟩ = some (.int .i64 ch.kind) ∧ w'.cell? ⟨wr.heap.size, 1, none⟩ = some (.int .i64 ch.x.off) ∧ w'.cell? ⟨wr.heap.size, 2, none⟩ = some (.int .i64 ch.x.len) ∧ w'.cell? ⟨wr.heap.size, 3, none⟩ = some (.int .i64 ch.x.phys) ∧ w'.cell? ⟨wr.heap.size, 4, none⟩ = some (.int .i64 ch.x.birth))
            (first | go_keep | exact ⟨v0, v1, v2, v3, v4⟩ | exact ⟨hv5.cell rfl, hv5.cell rfl, hv5.cell rfl, hv5.cell rfl, hv5.cell rfl⟩)
            (first
              | (go_at_call 34; refine hdo.mono ?_
                 rintro e w5 ⟨q', rfl, hD⟩
                 have hv5 := hD.ty.block _ _ _ hvB fot_change))
          obtain ⟨hX5, hF5⟩ := hCB.x.drew.gdo hD
          have hNext : CrAt w w5 B U b s k ks (i + 1) lsx.length := ⟨lsx ++ [q'], hX5, hCB.fr.then hF5.undrew fun j hj => .inl hj, by have := hCB.few; simp only [List.length_append, List.length_singleton]; omega, by rw [hstep, List.foldl_append]; exact hD.shw⟩
          clear hCB hvB hB hdo hD hX5 hF5 v0 v1 v2 v3 v4
          go_wp2
          go_roundw
          case rel => exact ⟨i + 1, lsx.length, by omega, by go_num, rfl, hNext⟩
          case measure => simp [intOf]; omega
      · have hikI : ¬ (i : Int) < (kn : Int) := by omega
        have hz : ks[i]? = none := List.getElem?_eq_none (by rw [Hkl.out]; omega)
        rw [hz, if_neg (by simp), List.append_nil] at hstep
        have hNext : CrAt w wB B U b s k ks (i + 1) r := ⟨lsx, hCB.x, hCB.fr, by have := hCB.few; omega, by rw [hstep]; exact hCB.shw⟩
        clear hCB hvB hB hrk
        go_wp2
        go_roundw
        case rel => exact ⟨i + 1, r, by omega, by go_num, rfl, hNext⟩
        case measure => simp [intOf]; omega
    · have hin : (m : Int) ≤ (i : Int) := by omega
      have hall : s.opn.take i = s.opn := List.take_of_length_le (by rw [← Hop.out, Hm.out]; omega)
      have hshw := hC.shw
      rw [hall] at hshw
      have hst := settle_ wr B b U s _ hC.x r _ hshw
      have hfr := hC.fr
      have hUr := hC.x.r.ulow
      clear hC hshw hall
      go_wp2_with fail
      refine hst.mono ?_
      rintro e w2 ⟨rfl, hN⟩
      have hN2 := hN.sh.setFrz false
      obtain ⟨k2, h2, -⟩ := hN.sh
      have c9 := h2.cell (j := 9) (u := .bool s.frz) rfl
      have f9 := h2.blk.free 9
      clear h2
      go_wp2
      go_end0
      refine ⟨rfl, ?_⟩
      exact Nx.pre hU hBw hfr (Nx.then hUr (Nat.le_trans hBw hfr.size) hN.fr hN2)
end
end Sha
end Go.Proofs.Ytfcfffilfmbpeaa
