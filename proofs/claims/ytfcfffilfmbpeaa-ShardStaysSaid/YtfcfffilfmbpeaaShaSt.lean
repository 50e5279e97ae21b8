/- Proves ShardStays of layer 12 (shard), for every input, with no condition: snapshots stay as they were taken. -/
import Derived.Test.YtfcfffilfmbpeaaShaR
set_option linter.all false
namespace Go.Proofs.Ytfcfffilfmbpeaa
open Go.ChangeShapes Go.WideShapes Go.ChangeAt Go.RowKit
namespace Sha
open Blo (vol fun_ GotN AnsN Dat FitB words_)

/-- A snapshot that was taken: its number, its row, its volume. -/
structure Tkn where
  id : Int
  A : Option Addr
  m : Nat
  c : Nat
  v : List Nat
def Tkn.cs (t : Tkn) : List Value := [.int .i64 t.id, .slice t.A t.m t.c]
def tks (L : List Tkn) : List Value := L.flatMap Tkn.cs
theorem tks_app (L M : List Tkn) : tks (L ++ M) = tks L ++ tks M := by simp [tks]
theorem tks_one (t : Tkn) : tks [t] = t.cs := by simp [tks]
theorem tks_get : ∀ {L : List Tkn} {j i : Nat} {t : Tkn}, L[j]? = some t → i < 2 → (tks L)[j * 2 + i]? = t.cs[i]?
  | [], j, i, t, h, _ => by simp at h
  | x :: L, 0, i, t, h, hi => by
    simp only [List.getElem?_cons_zero, Option.some.injEq] at h
    subst h
    have e : tks (x :: L) = x.cs ++ tks L := by simp [tks]
    rw [e, Nat.zero_mul, Nat.zero_add, List.getElem?_append_left (by simp [Tkn.cs]; omega)]
  | x :: L, j + 1, i, t, h, hi => by
    rw [List.getElem?_cons_succ] at h
    have e : tks (x :: L) = x.cs ++ tks L := by simp [tks]
    have e2 : x.cs.length = 2 := rfl
    rw [e, List.getElem?_append_right (by rw [e2]; omega), e2, show (j + 1) * 2 + i - 2 = j * 2 + i by omega]
    exact tks_get h hi
/-- The law's row of them, beside a shard. -/
structure Tk (w wr : World) (U : Nat → Prop) (V : Value) (L : List Tkn) : Prop where
  own : wr.ownsRow w.heap.size 39 2 V L.length (tks L)
  out : ∀ g, V.ownBlock = some g → ¬ U g
  rows : ∀ t ∈ L, Kept wr U t.A t.m t.c t.v
theorem fot_tk : ¬ FoT 39 := by unfold FoT; decide
theorem Tk.nil (w wr : World) (U : Nat → Prop) : Tk w wr U (.slice none 0 0) [] := ⟨own_nil _ _ _ _, fun g h => (by cases h), fun t h => (by cases h)⟩
theorem Tk.below {w wr wx : World} {U : Nat → Prop} {V : Value} {L : List Tkn} (h : Tk w wr U V L) (hb : Below wr.heap.size wr wx) : Tk w wx U V L := ⟨own_keep h.own hb, h.out, fun t ht => (h.rows t ht).below hb⟩
theorem Tk.next {w wr wx : World} {B : Nat} {U : Nat → Prop} {V : Value} {L : List Tkn} (h : Tk w wr U V L) (hf : Fr B U wr wx) : Tk w wx (gr U wr wx) V L :=
  ⟨own_fr h.own hf h.out fot_tk, fun g hg e => by
    have := (h.own.lt g hg).2
    rcases e with e | e
    · exact h.out g hg e
    · omega, fun t ht => (h.rows t ht).next hf⟩
theorem Tk.at_ {w wr : World} {U : Nat → Prop} {V : Value} {L : List Tkn} (h : Tk w wr U V L) {j : Nat} {t : Tkn} (ht : L[j]? = some t) : ∃ g c, V = .slice (some ⟨g, 0, none⟩) L.length c ∧ L.length ≤ c ∧ c ≤ 9223372036854775807 ∧ wr.cell? ⟨g, j * 2, none⟩ = some (.int .i64 t.id) ∧ wr.cell? ⟨g, j * 2 + 1, none⟩ = some (.slice t.A t.m t.c) := by
  have hl := (List.getElem?_eq_some_iff.1 ht).1
  rcases h.own.2 with ⟨_, h0⟩ | ⟨g, cap, cur, rfl, hg, hh, hnc, hcm, r⟩
  · omega
  · have hr := rd_own h.own
    have e0 : (tks L)[j * 2 + 0]? = some (.int .i64 t.id) := (tks_get ht (by omega)).trans rfl
    have e1 : (tks L)[j * 2 + 1]? = some (.slice t.A t.m t.c) := (tks_get ht (by omega)).trans rfl
    refine ⟨g, cap, rfl, hnc, by unfold maxLen at hcm; omega, ?_, ?_⟩
    · obtain ⟨b', o', e, hc⟩ := hr.2 _ _ e0
      simp only [Option.some.injEq, Addr.mk.injEq, and_true] at e
      obtain ⟨rfl, rfl⟩ := e
      simpa using hc
    · obtain ⟨b', o', e, hc⟩ := hr.2 _ _ e1
      simp only [Option.some.injEq, Addr.mk.injEq, and_true] at e
      obtain ⟨rfl, rfl⟩ := e
      simpa using hc
/-- A row that is none of the shard's, turned. -/
theorem Run.row {w wr wx : World} {b : Nat} {U : Nat → Prop} {s : SS} (h : Run w wr b U s) {V : Value} {n : Nat} {xs : List Value} (ho : wr.ownsRow w.heap.size 39 2 V n xs) (hu : ∀ g, V.ownBlock = some g → ¬ U g) (hg : wr.grownBy wx V.ownBlock) : Run w wx b U s := by
  cases hV : V.ownBlock with
  | none => rw [hV] at hg; exact h.below (grown_none_below hg)
  | some g =>
    have hlt := ho.lt g hV
    rcases ho.2 with ⟨rfl, _⟩ | ⟨g', cap, cur, rfl, hg', hh, _⟩
    · cases hV
    · have e : g' = g := by simpa [Value.ownBlock] using hV
      subst e
      rw [hV] at hg
      exact ⟨h.sh.turnedU hg hh (by decide) (by decide) (by decide) (hu _ hV), h.bel.grown hg h.bel.size (fun k hk => by injection hk with hk; omega)⟩
theorem Kept.row {w wr wx : World} {U : Nat → Prop} {A : Option Addr} {m c : Nat} {v : List Nat} (h : Kept wr U A m c v) {V : Value} {n : Nat} {xs : List Value} (ho : wr.ownsRow w.heap.size 39 2 V n xs) (hg : wr.grownBy wx V.ownBlock) : Kept wx U A m c v :=
  ⟨⟨own_grown h.got.own hg (fun k hk e => own_ne h.got.own ho (by decide) hk e.symm), h.got.low⟩, h.out⟩
/-- One more. -/
theorem Tk.app {w wr wx : World} {b : Nat} {U : Nat → Prop} {s : SS} {V V' : Value} {L : List Tkn} {t : Tkn} (h : Tk w wr U V L) (hR : Run w wr b U s) (ht : Kept wr U t.A t.m t.c t.v) (hg : wr.grownBy wx V.ownBlock) (ho : wx.ownsRow w.heap.size 39 2 V' (L.length + 1) (tks L ++ t.cs)) (hv : V'.ownBlock = V.ownBlock ∨ V'.ownBlock = some wr.heap.size) :
    Tk w wx U V' (L ++ [t]) := by
  refine ⟨?_, fun g hg' => ?_, fun x hx => ?_⟩
  · rw [tks_app, tks_one, List.length_append]
    exact ho
  · rcases hv with e | e
    · exact h.out g (e ▸ hg')
    · rw [e] at hg'
      injection hg' with hg'
      subst hg'
      exact fun q => by have := (hR.sh.ulow _ q).2; omega
  · rcases List.mem_append.1 hx with hx | hx
    · exact (h.rows x hx).row h.own hg
    · rw [List.mem_singleton.1 hx]; exact ht.row h.own hg
theorem info_tk : (Try.prog.info? 39).map (fun i => (i.zero, i.size, i.bytes)) = some (some (.agg #[.int .i64 0, .slice none 0 0]), 2, 32) := by kernel_rfl
theorem tk_info : ∃ i, Try.prog.info? 39 = some i ∧ i.zero = some (.agg #[.int .i64 0, .slice none 0 0]) ∧ i.size = 2 ∧ i.bytes = 32 := by
  obtain ⟨i, hi, he⟩ := Option.map_eq_some_iff.1 info_tk
  simp only [Prod.mk.injEq] at he
  exact ⟨i, hi, he.1, he.2.1, he.2.2⟩

/-! ### what a call does to the snapshots -/
def prs (L : List Tkn) : List (Int × List Nat) := L.map fun t => (t.id, t.v)
theorem prs_length (L : List Tkn) : (prs L).length = L.length := List.length_map ..
theorem prs_filter (L : List Tkn) (id : Int) : prs (L.filter fun t => decide (t.id ≠ id)) = (prs L).filter fun q => !decide (q.1 = id) := by
  unfold prs
  rw [List.filter_map]
  congr 1
  apply List.filter_congr
  intro t _
  simp
theorem act_snaps (s : SS) (a : Actn) : ((actS s a).snaps = s.snaps ∧ (actE s a = 0 → a.kd % 8 ≠ 3 ∧ a.kd % 8 ≠ 4)) ∨ (actE s a = 0 ∧ a.kd % 8 = 3 ∧ (actS s a).snaps = s.snaps ++ [(a.id, s.now)]) ∨ (actE s a = 0 ∧ a.kd % 8 = 4 ∧ (actS s a).snaps = s.snaps.filter fun q => !decide (q.1 = a.id)) := by
  have hcases : a.kd % 8 = 0 ∨ a.kd % 8 = 1 ∨ a.kd % 8 = 2 ∨ a.kd % 8 = 3 ∨ a.kd % 8 = 4 ∨ a.kd % 8 = 5 ∨ a.kd % 8 = 6 ∨ a.kd % 8 = 7 := by omega
  rcases hcases with e | e | e | e | e | e | e | e
  · left; obtain ⟨e1, e2⟩ := act_0 (s := s) e; rw [e1]; exact ⟨by unfold doS; split <;> rfl, fun _ => by omega⟩
  · left; obtain ⟨e1, e2⟩ := act_1 (s := s) e; rw [e1]; exact ⟨rfl, fun _ => by omega⟩
  · left; obtain ⟨e1, e2⟩ := act_2 (s := s) e; rw [e1]; exact ⟨rfl, fun _ => by omega⟩
  · obtain ⟨e1, e2⟩ := act_3 (s := s) e
    rw [e1, e2]
    by_cases h : snE s a.id = 0
    · right; left
      refine ⟨h, e, ?_⟩
      unfold snS
      rw [if_pos h]
    · left
      refine ⟨?_, fun q => absurd q h⟩
      unfold snS
      rw [if_neg h]
  · obtain ⟨e1, e2⟩ := act_4 (s := s) e
    rw [e1, e2]
    by_cases h : deE s a.id = 0
    · right; right
      exact ⟨h, e, rfl⟩
    · left
      refine ⟨?_, fun q => absurd q h⟩
      unfold deS
      simp only
      apply List.filter_eq_self.2
      intro q hq
      unfold deE at h
      split at h
      · exact absurd rfl h
      · rename_i hn
        simp only [Bool.not_eq_true', decide_eq_false_iff_not]
        intro e
        exact hn (has_iff.2 ⟨q, hq, e⟩)
  · left; obtain ⟨e1, e2⟩ := act_5 (s := s) e; rw [e1]; exact ⟨by unfold roS; split <;> rfl, fun _ => by omega⟩
  · left; obtain ⟨e1, e2⟩ := act_6 (s := s) e; rw [e1]; exact ⟨rfl, fun _ => by omega⟩
  · left; obtain ⟨e1, e2⟩ := act_7 (s := s) e; rw [e1]; exact ⟨rfl, fun _ => by omega⟩
def StA (w wr : World) (b N : Nat) (V : Value) : Prop := ∃ U s L, Run w wr b U s ∧ s.n = N ∧ Tk w wr U V L ∧ prs L = s.snaps
set_option maxRecDepth 100000 in
set_option maxHeartbeats 16000000 in
theorem shardStays_walk (w : World) (z : Int) (S1 : Option Addr) (n1 c1 : Nat) (l1 : List ActV) (h1 : (Shp.slice actShp 96).R w [.slice S1 n1 c1] l1) :
    Calls Try.prog 3 #[.int .i64 z, .slice S1 n1 c1] w fun e w' => e = .returned (.bool true) ∧ Below w.heap.size w w' := by
  have hn1 := acts_len h1
  obtain ⟨N, hN, hN63⟩ := and63 z
  obtain ⟨i0, hi0, hz0, hz1, hz2⟩ := tk_info
  have Hz := Lib.hid hz2
  clear hz2
  go_enter Try.func3, Try.ntmps3
  go_wp2_with fail
  refine (new_ w N (by omega)).mono ?_
  rintro e w1 ⟨b, rfl, hS1, hB1⟩
  go_wp2_with fail
  refine (alive_ _).mono ?_
  rintro e w2 ⟨rfl, hb2⟩
  have hA0 : StA w w2 b N (.slice none 0 0) := ⟨_, newS N, [], (Run.mk hS1 hB1).below hb2, rfl, Tk.nil _ _ _, rfl⟩
  clear hS1 hB1 hb2 hN
  go_wp2_with fail
  go_loopw [7, 38] (fun lv iv wr => ∃ k : Nat, k ≤ n1 ∧ iv = .int .i64 (k : Int) ∧ StA w wr b N lv) (fun _ iv _ => n1 - (intOf iv).toNat)
  case atStart => exact ⟨0, Nat.zero_le _, rfl, hA0⟩
  case round =>
    obtain ⟨k, hk, rfl, U, s, L, hR, hsn, hT, hp⟩ := hrel
    clear hA0
    obtain ⟨AV, cV, rfl, -, -, -⟩ := own_form hT.own
    obtain ⟨wo, hwo⟩ : ∃ wo : World, wo = wr := ⟨_, rfl⟩
    subst hwo
    by_cases hlt : k < n1
    · have hil : (k : Int) < (n1 : Int) := by omega
      have hk0 : (0 : Int) ≤ (k : Int) := by omega
      obtain ⟨bs, os, X, m, cc, K, kn, kc, a, rfl, hcell, hAat⟩ := acts_later h1 hR.bel hlt
      have q0 := hcell 0 _ rfl
      have q1 := hcell 1 _ rfl
      have q2 := hcell 2 _ rfl
      have q3 := hcell 3 _ rfl
      have q4 := hcell 4 _ rfl
      have q5 := hcell 5 _ rfl
      have q6 := hcell 6 _ rfl
      have q7 := hcell 7 _ rfl
      rw [Nat.add_zero] at q0
      obtain ⟨hbv, hvar⟩ := act_var wo a X m cc K kn kc
      have hRv := hR.below hbv
      have hTv := hT.below hbv
      have hkd := (hAat w (Below.refl _ _)).kd
      have hsn2 := (actS_n s a).trans hsn
      have hvU : ¬ U wo.heap.size := fun e => by have := (hR.sh.ulow _ e).2; omega
      have hrd := hRv.read hsn
      have hdo' := fun (wx : World) (hb : Below wo.heap.size wo wx) => hR.does hb hAat
      clear hcell hT
      simp only [actC] at hdo' hbv hvar hRv hTv hrd
      go_wp2_with fail
      refine hrd.mono ?_
      rintro e w4 ⟨A4, m4, c4, rfl, hG4, hb4⟩
      have hb04 := below_step hbv hb4 (Nat.le_refl _)
      have hR4 := hRv.below hb4
      have hT4 := hTv.below hb4
      have hv4 := hvar.keep hb4
      have hK4 : Kept w4 U A4 m4 c4 s.now := Kept.of (w := w) hG4 (fun j hj => (hRv.sh.ulow j hj).2)
      have hdo := hdo' _ hb04
      have u0 := hv4.cell (j := 0) (u := .int .u8 (a.kd : Int)) rfl
      have u1 := hv4.cell (j := 1) (u := .int .i64 a.op.kind) rfl
      have u2 := hv4.cell (j := 2) (u := .int .i64 a.op.off) rfl
      have u3 := hv4.cell (j := 3) (u := .int .i64 a.op.len) rfl
      have u4' := hv4.cell (j := 4) (u := .slice X m cc) rfl
      have u5 := hv4.cell (j := 5) (u := .int .i64 a.id) rfl
      have u6 := hv4.cell (j := 6) (u := .bool a.yes) rfl
      have u7' := hv4.cell (j := 7) (u := .slice K kn kc) rfl
      clear hrd hdo' hbv hvar hRv hTv hG4 hb4 hb04 hR
      go_wp2_with fail
      refine hdo.mono ?_
      rintro e w5 ⟨rfl, hNx⟩
      have hR5 := hR4.next hNx
      have hT5 := hT4.next hNx.fr
      have hK5 := hK4.next hNx.fr
      have hv5 := hNx.fr.blk _ _ _ hv4 hvU fot_act
      have v50 := hv5.cell (j := 0) (u := .int .u8 (a.kd : Int)) rfl
      have v55 := hv5.cell (j := 5) (u := .int .i64 a.id) rfl
      have hL32 : L.length ≤ 32 := by have := hR4.sh.ok.few2; rw [← hp, prs_length] at this; exact this
      obtain ⟨Ut, hUt⟩ : ∃ Ut, gr U w4 w5 = Ut := ⟨_, rfl⟩
      rw [hUt] at hR5 hT5 hK5
      have hsnap := act_snaps s a
      generalize hge : actE s a = ge at *
      generalize hgs : actS s a = st at *
      have hsnt := hsn2
      clear hdo hNx hR4 hT4 hK4 hv4 hge hgs hUt hsn hsn2 hvU u0 u1 u2 u3 u4' u5 u6 u7'
      rcases hsnap with ⟨e1, e2⟩ | ⟨hz, e2, e1⟩ | ⟨hz, e2, e1⟩
      · have hpt : prs L = st.snaps := hp.trans e1.symm
        clear hp e1 hK5
        by_cases hz : ge = 0
        · obtain ⟨k1, k2⟩ := e2 hz
          have g3 : ((a.kd : Int) % 8 == 3) = false := by simp; omega
          have g4 : ((a.kd : Int) % 8 == 4) = false := by simp; omega
          have hzb : (ge == 0) = true := by simp [hz]
          clear e2 k1 k2 hz
          go_wp2_with fail
          have hRt := hR5
          have hTt := hT5
          obtain ⟨Lt, hLt⟩ : ∃ Lt, Lt = L := ⟨_, rfl⟩
          clear hR5 hT5
          subst hLt
          have hlen : Lt.length ≤ 32 := by have := hRt.sh.ok.few2; rw [← hpt, prs_length] at this; exact this
          go_loopw [85] (fun jv wx => ∃ j : Nat, j ≤ Lt.length ∧ jv = .int .i64 (j : Int) ∧ Run w wx b Ut st ∧ Tk w wx Ut (.slice AV Lt.length cV) Lt) (fun jv _ => Lt.length - (intOf jv).toNat)
          case atStart => exact ⟨0, Nat.zero_le _, rfl, hRt, hTt⟩
          case round =>
            obtain ⟨j, hj, rfl, hR, hT⟩ := hrel
            clear hRt hTt
            by_cases hlt2 : j < Lt.length
            · have hjl : (j : Int) < (Lt.length : Int) := by omega
              have hj0 : (0 : Int) ≤ (j : Int) := by omega
              obtain ⟨t, ht⟩ : ∃ t, Lt[j]? = some t := ⟨_, List.getElem?_eq_getElem hlt2⟩
              obtain ⟨g, cg, hve, g1, g2, d0, d1⟩ := hT.at_ ht
              have hKt := hT.rows t (List.mem_of_getElem? ht)
              injection hve with hv1 _ hv2
              subst hv1 hv2
              have hmem : (t.id, t.v) ∈ st.snaps := by rw [← hpt]; exact List.mem_map.2 ⟨t, List.mem_of_getElem? ht, rfl⟩
              have hhas : hasS st t.id = true := has_iff.2 ⟨_, hmem, rfl⟩
              have hlk : lookS st t.id = t.v := hR.sh.ok.look_of hmem
              have hbx : Below wr.heap.size wr (wr.alloc (.cells #[.int .i64 t.id, .slice t.A t.m t.c] 39)) := (Below.refl _ _).alloc (Nat.le_refl _) _
              have kx := Blk.new wr 39 #[.int .i64 t.id, .slice t.A t.m t.c] rfl
              have hRx := hR.below hbx
              have hTx := hT.below hbx
              have hKx := hKt.below hbx
              have hmt : t.m ≤ 9223372036854775807 := by have := hKt.got.bounds; omega
              have hlo := hRx.look hsnt t.id hhas
              rw [hlk] at hlo
              clear hR hT hKt hlk hmem hhas hbx g1 g2 ht
              obtain ⟨ti, tA, tm, tc, tv⟩ := t
              simp only at d0 d1 kx hRx hTx hKx hmt hlo
              go_wp2_with fail
              refine hlo.mono ?_
              rintro e w8 ⟨A8, m8, c8, rfl, hG8, hb8⟩
              have hR8 := hRx.below hb8
              have hT8 := hTx.below hb8
              have hK8 := hKx.below hb8
              have k8 := kx.keep hb8
              have x1 := k8.cell (j := 1) (u := .slice tA tm tc) rfl
              have hm8 : m8 ≤ 9223372036854775807 := by have := hG8.bounds; omega
              have hw := words_ w8 A8 tA m8 tm c8 tc tv tv hG8.ns hK8.ns hm8
              rw [decide_eq_true (rfl : tv = tv)] at hw
              clear hRx hTx hKx hb8 hlo kx k8 hG8 d0 d1
              go_wp2_with fail
              refine hw.mono ?_
              rintro e w9 ⟨rfl, j9, rfl⟩
              have hbd := below_drewN (Below.refl w8.heap.size w8) j9
              have hR9 := hR8.below hbd
              have hT9 := hT8.below hbd
              clear hR8 hT8 hK8 hw hbd x1
              go_wp2
              go_roundw
              case rel => exact ⟨j + 1, by omega, by go_num, hR9, hT9⟩
              case measure => simp [intOf]; omega
            · have hjn : (Lt.length : Int) ≤ (j : Int) := by omega
              have hsp := snaps_ wr w.heap.size b Ut st hR.sh
              go_wp2_with fail
              refine hsp.mono ?_
              rintro e w8 ⟨A8, m8, c8, rfl, hO8, hb8⟩
              have hm8 : m8 = Lt.length := by
                have := hO8.1
                rw [ivs_length] at this
                unfold idsS at this
                rw [List.length_map, ← hpt, prs_length] at this
                omega
              subst hm8
              have hnext : StA w w8 b N (.slice AV Lt.length cV) := ⟨Ut, st, Lt, hR.below hb8, hsnt, hT.below hb8, hpt⟩
              clear hsp hO8 hb8 hR hT
              go_wp2
              go_roundw
              case rel => exact ⟨k + 1, by omega, by go_num, hnext⟩
              case measure => simp [intOf]; omega
        · have hzb : (ge == 0) = false := by simp [hz]
          clear e2 hz
          go_wp2_with fail
          have hRt := hR5
          have hTt := hT5
          obtain ⟨Lt, hLt⟩ : ∃ Lt, Lt = L := ⟨_, rfl⟩
          clear hR5 hT5
          subst hLt
          have hlen : Lt.length ≤ 32 := by have := hRt.sh.ok.few2; rw [← hpt, prs_length] at this; exact this
          go_loopw [85] (fun jv wx => ∃ j : Nat, j ≤ Lt.length ∧ jv = .int .i64 (j : Int) ∧ Run w wx b Ut st ∧ Tk w wx Ut (.slice AV Lt.length cV) Lt) (fun jv _ => Lt.length - (intOf jv).toNat)
          case atStart => exact ⟨0, Nat.zero_le _, rfl, hRt, hTt⟩
          case round =>
            obtain ⟨j, hj, rfl, hR, hT⟩ := hrel
            clear hRt hTt
            by_cases hlt2 : j < Lt.length
            · have hjl : (j : Int) < (Lt.length : Int) := by omega
              have hj0 : (0 : Int) ≤ (j : Int) := by omega
              obtain ⟨t, ht⟩ : ∃ t, Lt[j]? = some t := ⟨_, List.getElem?_eq_getElem hlt2⟩
              obtain ⟨g, cg, hve, g1, g2, d0, d1⟩ := hT.at_ ht
              have hKt := hT.rows t (List.mem_of_getElem? ht)
              injection hve with hv1 _ hv2
              subst hv1 hv2
              have hmem : (t.id, t.v) ∈ st.snaps := by rw [← hpt]; exact List.mem_map.2 ⟨t, List.mem_of_getElem? ht, rfl⟩
              have hhas : hasS st t.id = true := has_iff.2 ⟨_, hmem, rfl⟩
              have hlk : lookS st t.id = t.v := hR.sh.ok.look_of hmem
              have hbx : Below wr.heap.size wr (wr.alloc (.cells #[.int .i64 t.id, .slice t.A t.m t.c] 39)) := (Below.refl _ _).alloc (Nat.le_refl _) _
              have kx := Blk.new wr 39 #[.int .i64 t.id, .slice t.A t.m t.c] rfl
              have hRx := hR.below hbx
              have hTx := hT.below hbx
              have hKx := hKt.below hbx
              have hmt : t.m ≤ 9223372036854775807 := by have := hKt.got.bounds; omega
              have hlo := hRx.look hsnt t.id hhas
              rw [hlk] at hlo
              clear hR hT hKt hlk hmem hhas hbx g1 g2 ht
              obtain ⟨ti, tA, tm, tc, tv⟩ := t
              simp only at d0 d1 kx hRx hTx hKx hmt hlo
              go_wp2_with fail
              refine hlo.mono ?_
              rintro e w8 ⟨A8, m8, c8, rfl, hG8, hb8⟩
              have hR8 := hRx.below hb8
              have hT8 := hTx.below hb8
              have hK8 := hKx.below hb8
              have k8 := kx.keep hb8
              have x1 := k8.cell (j := 1) (u := .slice tA tm tc) rfl
              have hm8 : m8 ≤ 9223372036854775807 := by have := hG8.bounds; omega
              have hw := words_ w8 A8 tA m8 tm c8 tc tv tv hG8.ns hK8.ns hm8
              rw [decide_eq_true (rfl : tv = tv)] at hw
              clear hRx hTx hKx hb8 hlo kx k8 hG8 d0 d1
              go_wp2_with fail
              refine hw.mono ?_
              rintro e w9 ⟨rfl, j9, rfl⟩
              have hbd := below_drewN (Below.refl w8.heap.size w8) j9
              have hR9 := hR8.below hbd
              have hT9 := hT8.below hbd
              clear hR8 hT8 hK8 hw hbd x1
              go_wp2
              go_roundw
              case rel => exact ⟨j + 1, by omega, by go_num, hR9, hT9⟩
              case measure => simp [intOf]; omega
            · have hjn : (Lt.length : Int) ≤ (j : Int) := by omega
              have hsp := snaps_ wr w.heap.size b Ut st hR.sh
              go_wp2_with fail
              refine hsp.mono ?_
              rintro e w8 ⟨A8, m8, c8, rfl, hO8, hb8⟩
              have hm8 : m8 = Lt.length := by
                have := hO8.1
                rw [ivs_length] at this
                unfold idsS at this
                rw [List.length_map, ← hpt, prs_length] at this
                omega
              subst hm8
              have hnext : StA w w8 b N (.slice AV Lt.length cV) := ⟨Ut, st, Lt, hR.below hb8, hsnt, hT.below hb8, hpt⟩
              clear hsp hO8 hb8 hR hT
              go_wp2
              go_roundw
              case rel => exact ⟨k + 1, by omega, by go_num, hnext⟩
              case measure => simp [intOf]; omega
      · have q := kd_test e2
        have hzb : (ge == 0) = true := by simp [hz]
        have hba : Below w5.heap.size w5 (w5.alloc (.cells #[.int .i64 a.id, .slice A4 m4 c4] 39)) := (Below.refl _ _).alloc (Nat.le_refl _) _
        have hRa := hR5.below hba
        have hTa := hT5.below hba
        have hKa := hK5.below hba
        have hbse := hRa.bel.size
        clear e2 hz hR5 hT5 hK5
        go_wp2_with (first
          | (at_builtin
             go_must (refine wpList_app _ rfl (.tmp 57) (.tmp 62) _ rfl w.heap.size 39 i0 _ 2 32 Try.underlying28 hi0 hz0 hz1 Hz.out rfl (by decide) _ _ _ rfl hTa.own _ 1 1 (Tkn.cs ⟨a.id, A4, m4, c4, s.now⟩) rfl (fun h => by cases h) (Rd.new w5 #[.int .i64 a.id, .slice A4 m4 c4] 39 (0, 0) rfl) (by intro u hu; simp only [Tkn.cs, List.mem_cons, List.not_mem_nil, or_false] at hu; rcases hu with rfl | rfl <;> rfl) (by unfold maxLen; omega) (by omega) hbse ?_)
             intro v6 w6 hown6 hg6 hat6
             go_must (
               have hTt := hTa.app (t := ⟨a.id, A4, m4, c4, s.now⟩) hRa hKa hg6 hown6 hat6
               have hRt := hRa.row hTa.own hTa.out hg6
               have hpt : prs (L ++ [⟨a.id, A4, m4, c4, s.now⟩]) = st.snaps := by rw [e1, ← hp]; simp [prs]
               obtain ⟨Lt, hLt⟩ : ∃ Lt, L ++ [(⟨a.id, A4, m4, c4, s.now⟩ : Tkn)] = Lt := ⟨_, rfl⟩
               rw [hLt] at hTt hpt
               obtain ⟨AV, cV, hVe, -, -, -⟩ := own_form hTt.own
               subst hVe
               clear hown6 hg6 hat6 hTa hRa hKa hba hLt))
          | fail)
        have hlen : Lt.length ≤ 32 := by have := hRt.sh.ok.few2; rw [← hpt, prs_length] at this; exact this
        go_loopw [85] (fun jv wx => ∃ j : Nat, j ≤ Lt.length ∧ jv = .int .i64 (j : Int) ∧ Run w wx b Ut st ∧ Tk w wx Ut (.slice AV Lt.length cV) Lt) (fun jv _ => Lt.length - (intOf jv).toNat)
        case atStart => exact ⟨0, Nat.zero_le _, rfl, hRt, hTt⟩
        case round =>
          obtain ⟨j, hj, rfl, hR, hT⟩ := hrel
          clear hRt hTt
          by_cases hlt2 : j < Lt.length
          · have hjl : (j : Int) < (Lt.length : Int) := by omega
            have hj0 : (0 : Int) ≤ (j : Int) := by omega
            obtain ⟨t, ht⟩ : ∃ t, Lt[j]? = some t := ⟨_, List.getElem?_eq_getElem hlt2⟩
            obtain ⟨g, cg, hve, g1, g2, d0, d1⟩ := hT.at_ ht
            have hKt := hT.rows t (List.mem_of_getElem? ht)
            injection hve with hv1 _ hv2
            subst hv1 hv2
            have hmem : (t.id, t.v) ∈ st.snaps := by rw [← hpt]; exact List.mem_map.2 ⟨t, List.mem_of_getElem? ht, rfl⟩
            have hhas : hasS st t.id = true := has_iff.2 ⟨_, hmem, rfl⟩
            have hlk : lookS st t.id = t.v := hR.sh.ok.look_of hmem
            have hbx : Below wr.heap.size wr (wr.alloc (.cells #[.int .i64 t.id, .slice t.A t.m t.c] 39)) := (Below.refl _ _).alloc (Nat.le_refl _) _
            have kx := Blk.new wr 39 #[.int .i64 t.id, .slice t.A t.m t.c] rfl
            have hRx := hR.below hbx
            have hTx := hT.below hbx
            have hKx := hKt.below hbx
            have hmt : t.m ≤ 9223372036854775807 := by have := hKt.got.bounds; omega
            have hlo := hRx.look hsnt t.id hhas
            rw [hlk] at hlo
            clear hR hT hKt hlk hmem hhas hbx g1 g2 ht
            obtain ⟨ti, tA, tm, tc, tv⟩ := t
            simp only at d0 d1 kx hRx hTx hKx hmt hlo
            go_wp2_with fail
            refine hlo.mono ?_
            rintro e w8 ⟨A8, m8, c8, rfl, hG8, hb8⟩
            have hR8 := hRx.below hb8
            have hT8 := hTx.below hb8
            have hK8 := hKx.below hb8
            have k8 := kx.keep hb8
            have x1 := k8.cell (j := 1) (u := .slice tA tm tc) rfl
            have hm8 : m8 ≤ 9223372036854775807 := by have := hG8.bounds; omega
            have hw := words_ w8 A8 tA m8 tm c8 tc tv tv hG8.ns hK8.ns hm8
            rw [decide_eq_true (rfl : tv = tv)] at hw
            clear hRx hTx hKx hb8 hlo kx k8 hG8 d0 d1
            go_wp2_with fail
            refine hw.mono ?_
            rintro e w9 ⟨rfl, j9, rfl⟩
            have hbd := below_drewN (Below.refl w8.heap.size w8) j9
            have hR9 := hR8.below hbd
            have hT9 := hT8.below hbd
            clear hR8 hT8 hK8 hw hbd x1
            go_wp2
            go_roundw
            case rel => exact ⟨j + 1, by omega, by go_num, hR9, hT9⟩
            case measure => simp [intOf]; omega
          · have hjn : (Lt.length : Int) ≤ (j : Int) := by omega
            have hsp := snaps_ wr w.heap.size b Ut st hR.sh
            go_wp2_with fail
            refine hsp.mono ?_
            rintro e w8 ⟨A8, m8, c8, rfl, hO8, hb8⟩
            have hm8 : m8 = Lt.length := by
              have := hO8.1
              rw [ivs_length] at this
              unfold idsS at this
              rw [List.length_map, ← hpt, prs_length] at this
              omega
            subst hm8
            have hnext : StA w w8 b N (.slice AV Lt.length cV) := ⟨Ut, st, Lt, hR.below hb8, hsnt, hT.below hb8, hpt⟩
            clear hsp hO8 hb8 hR hT
            go_wp2
            go_roundw
            case rel => exact ⟨k + 1, by omega, by go_num, hnext⟩
            case measure => simp [intOf]; omega
      · have q := kd_test e2
        have hzb : (ge == 0) = true := by simp [hz]
        have hL0 : prs (L.filter fun t => decide (t.id ≠ a.id)) = st.snaps := by rw [e1, ← hp, prs_filter]
        clear e1 e2 hz hK5
        go_wp2_with fail
        go_loopw [12, 68] (fun kv jv wx => ∃ j : Nat, j ≤ L.length ∧ jv = .int .i64 (j : Int) ∧ Below w5.heap.size w5 wx ∧ wx.ownsRow w5.heap.size 39 2 kv ((L.take j).filter fun t => decide (t.id ≠ a.id)).length (tks ((L.take j).filter fun t => decide (t.id ≠ a.id)))) (fun _ jv _ => L.length - (intOf jv).toNat)
        case atStart => exact ⟨0, Nat.zero_le _, rfl, Below.refl _ _, own_nil _ _ _ _⟩
        case round =>
          obtain ⟨j, hj, rfl, hb5, hO⟩ := hrel
          by_cases hlt2 : j < L.length
          · have hjl : (j : Int) < (L.length : Int) := by omega
            have hj0 : (0 : Int) ≤ (j : Int) := by omega
            obtain ⟨t, ht⟩ : ∃ t, L[j]? = some t := ⟨_, List.getElem?_eq_getElem hlt2⟩
            obtain ⟨g, cg, hve, g1, g2, d0, d1⟩ := hT5.at_ ht
            injection hve with hv1 _ hv2
            subst hv1 hv2
            have hts := Lib.hid (Blo.take_succ_of ht)
            have hsz5 := hb5.size
            have c0 := (hb5.cell (cell_lt d0)).trans d0
            have c1 := (hb5.cell (cell_lt d1)).trans d1
            have vv := (hv5.keep hb5).cell (j := 5) (u := .int .i64 a.id) rfl
            have hbx : Below w5.heap.size w5 (wr.alloc (.cells #[.int .i64 t.id, .slice t.A t.m t.c] 39)) := hb5.alloc hsz5 _
            have kx := Blk.new wr 39 #[.int .i64 t.id, .slice t.A t.m t.c] rfl
            have vx := (hv5.keep hbx).cell (j := 5) (u := .int .i64 a.id) rfl
            have hOx := own_keep hO ((Below.refl wr.heap.size wr).alloc (Nat.le_refl _) (.cells #[.int .i64 t.id, .slice t.A t.m t.c] 39))
            have hsx : w5.heap.size ≤ (wr.alloc (.cells #[.int .i64 t.id, .slice t.A t.m t.c] 39)).heap.size := hbx.size
            have hl2 : ((L.take j).filter fun t => decide (t.id ≠ a.id)).length ≤ 32 := Nat.le_trans (List.length_filter_le _ _) (by rw [List.length_take]; omega)
            obtain ⟨L2, hL2⟩ : ∃ L2, (L.take j).filter (fun t => decide (t.id ≠ a.id)) = L2 := ⟨_, rfl⟩
            rw [hL2] at hl2 hOx hO
            have HL2 := Lib.hid hL2
            clear g1 g2 d0 d1 hL2 ht
            by_cases hid : t.id = a.id
            · have hf : (L.take (j + 1)).filter (fun t => decide (t.id ≠ a.id)) = L2 := by rw [hts.out, List.filter_append, HL2.out]; simp [hid]
              have hne : (t.id != a.id) = false := by simp [hid]
              rw [← hf] at hOx
              obtain ⟨ti, tA, tm, tc, tv⟩ := t
              simp only at c0 c1 kx vx hbx hOx hne
              have x0 := kx.cell (j := 0) (u := .int .i64 ti) rfl
              clear hO hf hid hts HL2 hsx
              go_wp2
              go_roundw
              case rel => exact ⟨j + 1, by omega, by go_num, hbx, hOx⟩
              case measure => simp [intOf]; omega
            · have hf : (L.take (j + 1)).filter (fun t => decide (t.id ≠ a.id)) = L2 ++ [t] := by rw [hts.out, List.filter_append, HL2.out]; simp [hid]
              have hne : (t.id != a.id) = true := by simp [hid]
              have Hf := Lib.hid hf
              have hlen2 : (L2 ++ [t]).length = L2.length + 1 := by simp
              have htk : tks (L2 ++ [t]) = tks L2 ++ t.cs := by rw [tks_app, tks_one]
              have hby := hbx.alloc hsx (.cells #[.int .i64 t.id, .slice t.A t.m t.c] 39)
              have hOy := own_keep hOx ((Below.refl _ _).alloc (Nat.le_refl _) (.cells #[.int .i64 t.id, .slice t.A t.m t.c] 39))
              have hsy := hby.size
              have hsa1 : (wr.alloc (.cells #[.int .i64 t.id, .slice t.A t.m t.c] 39)).heap.size = wr.heap.size + 1 := by simp
              have hrdy := Rd.new (sz := 2) (n := 1) (wr.alloc (.cells #[.int .i64 t.id, .slice t.A t.m t.c] 39)) #[.int .i64 t.id, .slice t.A t.m t.c] 39 (0, 0) rfl
              rw [hsa1] at hrdy
              have x0 := kx.cell (j := 0) (u := .int .i64 t.id) rfl
              have x1 := kx.cell (j := 1) (u := .slice t.A t.m t.c) rfl
              clear hO hf hid hts HL2 hOx
              go_wp2_with (first
                | (at_builtin
                   go_must (refine wpList_app _ rfl (.tmp 77) (.tmp 79) _ rfl w5.heap.size 39 i0 _ 2 32 Try.underlying28 hi0 hz0 hz1 Hz.out rfl (by decide) _ _ _ rfl hOy _ 1 1 (Tkn.cs t) rfl (fun h => by cases h) hrdy (by intro u hu; simp only [Tkn.cs, List.mem_cons, List.not_mem_nil, or_false] at hu; rcases hu with rfl | rfl <;> rfl) (by unfold maxLen; omega) (by omega) hsy ?_)
                   intro v6 w6 hown6 hg6 hat6
                   go_must (
                     have hb6 : Below w5.heap.size w5 w6 := hby.grown hg6 hsy (fun q hq => (hOy.lt q hq).1)
                     rw [← htk, ← hlen2, ← Hf.out] at hown6))
                | fail)
              go_roundw
              case rel => exact ⟨j + 1, by omega, by go_num, hb6, hown6⟩
              case measure => simp [intOf]; omega
          · have hjn : (L.length : Int) ≤ (j : Int) := by omega
            have hje : j = L.length := by omega
            subst hje
            rw [List.take_length] at hO
            have hRt := hR5.below hb5
            have hTt : Tk w wr Ut _ (L.filter fun t => decide (t.id ≠ a.id)) := ⟨hO.mono hR5.bel.size, fun g hg e => by have := (hO.lt g hg).1; have := (hR5.sh.ulow g e).2; omega, fun x hx => (hT5.rows x (List.mem_filter.1 hx).1).below hb5⟩
            obtain ⟨Lt, hLt⟩ : ∃ Lt, (L.filter fun t => decide (t.id ≠ a.id)) = Lt := ⟨_, rfl⟩
            rw [hLt] at hTt hL0
            have hpt := hL0
            obtain ⟨AV, cV, hVe, -, -, -⟩ := own_form hTt.own
            subst hVe
            clear hR5 hT5 hb5 hO hLt hL0 hv5
            go_wp2_with fail
            have hlen : Lt.length ≤ 32 := by have := hRt.sh.ok.few2; rw [← hpt, prs_length] at this; exact this
            go_loopw [85] (fun jv wx => ∃ j : Nat, j ≤ Lt.length ∧ jv = .int .i64 (j : Int) ∧ Run w wx b Ut st ∧ Tk w wx Ut (.slice AV Lt.length cV) Lt) (fun jv _ => Lt.length - (intOf jv).toNat)
            case atStart => exact ⟨0, Nat.zero_le _, rfl, hRt, hTt⟩
            case round =>
              obtain ⟨j, hj, rfl, hR, hT⟩ := hrel
              clear hRt hTt
              by_cases hlt2 : j < Lt.length
              · have hjl : (j : Int) < (Lt.length : Int) := by omega
                have hj0 : (0 : Int) ≤ (j : Int) := by omega
                obtain ⟨t, ht⟩ : ∃ t, Lt[j]? = some t := ⟨_, List.getElem?_eq_getElem hlt2⟩
                obtain ⟨g, cg, hve, g1, g2, d0, d1⟩ := hT.at_ ht
                have hKt := hT.rows t (List.mem_of_getElem? ht)
                injection hve with hv1 _ hv2
                subst hv1 hv2
                have hmem : (t.id, t.v) ∈ st.snaps := by rw [← hpt]; exact List.mem_map.2 ⟨t, List.mem_of_getElem? ht, rfl⟩
                have hhas : hasS st t.id = true := has_iff.2 ⟨_, hmem, rfl⟩
                have hlk : lookS st t.id = t.v := hR.sh.ok.look_of hmem
                have hbx : Below wr.heap.size wr (wr.alloc (.cells #[.int .i64 t.id, .slice t.A t.m t.c] 39)) := (Below.refl _ _).alloc (Nat.le_refl _) _
                have kx := Blk.new wr 39 #[.int .i64 t.id, .slice t.A t.m t.c] rfl
                have hRx := hR.below hbx
                have hTx := hT.below hbx
                have hKx := hKt.below hbx
                have hmt : t.m ≤ 9223372036854775807 := by have := hKt.got.bounds; omega
                have hlo := hRx.look hsnt t.id hhas
                rw [hlk] at hlo
                clear hR hT hKt hlk hmem hhas hbx g1 g2 ht
                obtain ⟨ti, tA, tm, tc, tv⟩ := t
                simp only at d0 d1 kx hRx hTx hKx hmt hlo
                go_wp2_with fail
                refine hlo.mono ?_
                rintro e w8 ⟨A8, m8, c8, rfl, hG8, hb8⟩
                have hR8 := hRx.below hb8
                have hT8 := hTx.below hb8
                have hK8 := hKx.below hb8
                have k8 := kx.keep hb8
                have x1 := k8.cell (j := 1) (u := .slice tA tm tc) rfl
                have hm8 : m8 ≤ 9223372036854775807 := by have := hG8.bounds; omega
                have hw := words_ w8 A8 tA m8 tm c8 tc tv tv hG8.ns hK8.ns hm8
                rw [decide_eq_true (rfl : tv = tv)] at hw
                clear hRx hTx hKx hb8 hlo kx k8 hG8 d0 d1
                go_wp2_with fail
                refine hw.mono ?_
                rintro e w9 ⟨rfl, j9, rfl⟩
                have hbd := below_drewN (Below.refl w8.heap.size w8) j9
                have hR9 := hR8.below hbd
                have hT9 := hT8.below hbd
                clear hR8 hT8 hK8 hw hbd x1
                go_wp2
                go_roundw
                case rel => exact ⟨j + 1, by omega, by go_num, hR9, hT9⟩
                case measure => simp [intOf]; omega
              · have hjn : (Lt.length : Int) ≤ (j : Int) := by omega
                have hsp := snaps_ wr w.heap.size b Ut st hR.sh
                go_wp2_with fail
                refine hsp.mono ?_
                rintro e w8 ⟨A8, m8, c8, rfl, hO8, hb8⟩
                have hm8 : m8 = Lt.length := by
                  have := hO8.1
                  rw [ivs_length] at this
                  unfold idsS at this
                  rw [List.length_map, ← hpt, prs_length] at this
                  omega
                subst hm8
                have hnext : StA w w8 b N (.slice AV Lt.length cV) := ⟨Ut, st, Lt, hR.below hb8, hsnt, hT.below hb8, hpt⟩
                clear hsp hO8 hb8 hR hT
                go_wp2
                go_roundw
                case rel => exact ⟨k + 1, by omega, by go_num, hnext⟩
                case measure => simp [intOf]; omega
    · have hin : (n1 : Int) ≤ (k : Int) := by omega
      have hfin := hR.bel
      go_wp2
      go_ret
      exact ⟨rfl, hfin⟩
end Sha
open Sha

set_option maxRecDepth 100000 in
theorem shardStays_lifted (os : Os) (started : os.Started) (H : Type) (enc : TypeId × Value → H) :
    ReturnsInHanded {} Try.checked os 3 .any (Rows.shardStaysSpec.pre6 enc Try.prog Try.f3 Rows.shardStaysRow.domain false) (Rows.shardStaysSpec.post enc Try.prog Try.f3 false true false false) := by
  refine law_lifted (C := Try.checked) (tb := 4) own_ started (by kernel_rfl) Try.func3
    (ChangeSpec.witness6 (enc := enc) (C := Try.checked) false ⟨#[], #[.int .i64 0, .slice none 0 0], []⟩ 8 (by kernel_rfl) (by kernel_rfl) (by kernel_rfl) (by kernel_rfl))
    rfl rfl Try.underlying4 laidOut_ (by kernel_rfl) (fun ds h => by match ds, h with | [_, _], _ => rfl) ?_
  intro W base args ds p hval0 hA0 _ hsz0
  have hval : ∀ (j : Nat) t v, Try.f3.params[j]? = some t → args[j]? = some v → Value.okWide Try.prog W .any base t v := hval0
  have hA : DataW.TrodAll enc Try.prog W 0 (fun _ => true) true Try.f3.params.toList args.toList ds p := hA0
  have hsz : (DataW.weightsEach Try.prog Try.f3.params.toList ds).all (· ≤ reachBytes) = true := hsz0
  clear hval0 hA0 hsz0
  rw [Try.params3] at hA hval hsz
  obtain ⟨v0, v1, d0, d1, p0, p1, rfl, rfl, rfl, h0, h1⟩ := trodAll_two hA
  obtain ⟨z0, rfl, hz0⟩ := arg_int _ _ Try.underlying3 (hval 0 _ v0 rfl rfl) h0 wf_i64
  obtain ⟨A1, n1, c1, xs1, rfl, r1, b1⟩ := arg_slice ops_acts Try.underlying22 (hval 1 _ v1 rfl rfl) h1 (weight_at hsz (j := 1) rfl rfl)
  exact shardStays_walk W z0 A1 n1 c1 xs1 r1

/-- ShardStays, for every input: the statement as it was given. -/
theorem shardStays_holds : Rows.ShardStaysSaid :=
  OpenClaim.holds_of_wide 3 Try.f3 rfl rfl rfl rfl rfl rfl rfl ⟨rfl, rfl, rfl, rfl, rfl⟩ rfl rfl rfl rfl rfl (by kernel_rfl) Try.func3 (by kernel_rfl)
    (of_decide_eq_true (by kernel_rfl)) (by unfold Func.isWrapper; first | (rw [if_pos (by decide +kernel)]; kernel_rfl) | (rw [if_neg (by decide +kernel)]; exact ⟨rfl, rfl⟩))
    (fun os started H enc _ => shardStays_lifted os started H enc)
end Go.Proofs.Ytfcfffilfmbpeaa
