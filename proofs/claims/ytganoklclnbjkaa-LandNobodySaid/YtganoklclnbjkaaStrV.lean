/- Layer 10: Ops. -/
import Derived.Test.YtganoklclnbjkaaStrX
import Derived.Test.YtganoklclnbjkaaBloW
set_option linter.all false
namespace Go.Proofs.Ytganoklclnbjkaa
open Go.RowKit
namespace Str
open Blo (I64)
abbrev ov8 (p : BOp × Value) : List Value := [.int .i64 p.1.kind, .int .i64 p.1.off, .int .i64 p.1.len, p.2]
def ovs (L : List (BOp × Value)) : List Value := L.flatMap ov8
theorem ovs_app (L L' : List (BOp × Value)) : ovs (L ++ L') = ovs L ++ ovs L' := by simp [ovs]
theorem ovs_cons (p : BOp × Value) (L : List (BOp × Value)) : ovs (p :: L) = ov8 p ++ ovs L := rfl
theorem ovs_len : ∀ L : List (BOp × Value), (ovs L).length = L.length * 4
  | [] => rfl
  | p :: L => by rw [ovs_cons, List.length_append, ovs_len L, List.length_cons]; simp; omega
theorem ovs_at : ∀ {L : List (BOp × Value)} {k : Nat} (h : k < L.length) {j : Nat} (_ : j < 4), (ovs L)[k * 4 + j]? = (ov8 L[k])[j]?
  | p :: L, 0, _, j, hj => by
    rw [ovs_cons, List.getElem?_append_left (by simp; omega)]
    simp
  | p :: L, k + 1, h, j, hj => by
    rw [ovs_cons, List.getElem?_append_right (by simp; omega)]
    have e : (k + 1) * 4 + j - (ov8 p).length = k * 4 + j := by simp; omega
    rw [e, ovs_at (L := L) (by simpa using h) hj]
    simp
/-- An op that fits into memory. -/
structure SmO (o : BOp) : Prop where
  fit : Blo.FitB o
  low : ∀ z ∈ o.data, z < 18446744073709551616
  by8 : o.data.length * 8 ≤ 140737488355328
/-- v is a row of the call's own, of ops, whose numbers lie in rows of the call's own. -/
structure Olo (w : World) (base : Nat) (v : Value) (n : Nat) (L : List (BOp × Value)) : Prop where
  row : w.ownsRow base 67 4 v n (ovs L)
  data : ∀ p ∈ L, w.ownsRow base 62 1 p.2 p.1.data.length (nvs p.1.data)
  sm : ∀ p ∈ L, SmO p.1
theorem Olo.len {w : World} {base : Nat} {v : Value} {n : Nat} {L : List (BOp × Value)} (h : Olo w base v n L) : n = L.length := by have := h.row.1; rw [ovs_len] at this; omega
theorem Olo.keep {w w' : World} {base : Nat} {v : Value} {n : Nat} {L : List (BOp × Value)} (h : Olo w base v n L) (hb : Below w.heap.size w w') : Olo w' base v n L := ⟨own_keep h.row hb, fun p hp => own_keep (h.data p hp) hb, h.sm⟩
theorem Olo.nil (w : World) (base : Nat) : Olo w base (.slice none 0 0) 0 [] := ⟨own_nil _ _ _ _, by simp, by simp⟩
theorem Olo.app {w w' : World} {base : Nat} {v v' : Value} {n m : Nat} {L M : List (BOp × Value)} (h : Olo w base v n L) (hg : w.grownBy w' v.ownBlock) (hr : w'.ownsRow base 67 4 v' (n + m) (ovs L ++ ovs M)) (hd : ∀ p ∈ M, w.ownsRow base 62 1 p.2 p.1.data.length (nvs p.1.data)) (hs : ∀ p ∈ M, SmO p.1) : Olo w' base v' (n + m) (L ++ M) := by
  have hne : ∀ {u : Value} {m : Nat} {xs : List Value}, w.ownsRow base 62 1 u m xs → ∀ k, u.ownBlock = some k → some k ≠ v.ownBlock := fun hu k hk e => own_ne h.row hu (by decide) e.symm hk
  refine ⟨by rw [ovs_app]; exact hr, fun p hp => ?_, fun p hp => ?_⟩
  · rcases List.mem_append.1 hp with hp | hp
    · exact own_grown (h.data p hp) hg (hne (h.data p hp))
    · exact own_grown (hd p hp) hg (hne (hd p hp))
  · rcases List.mem_append.1 hp with hp | hp
    · exact h.sm p hp
    · exact hs p hp
theorem dat_own {w : World} {base : Nat} {o : BOp} {v : Value} (h : w.ownsRow base 62 1 v o.data.length (nvs o.data)) (hs : SmO o) : ∃ X c, v = .slice X o.data.length c ∧ Blo.Dat w o X o.data.length c := by
  obtain ⟨X, c, rfl, h1, h2, h3⟩ := own_form h
  unfold maxLen at h2
  exact ⟨X, c, rfl, ⟨no_ns h hs.low, h3, h1, by omega, hs.by8, hs.fit⟩⟩
/-- What is owned is read. -/
theorem Olo.opl {w : World} {base n c : Nat} {A : Option Addr} {L : List (BOp × Value)} (h : Olo w base (.slice A n c) n L) : Blo.Opl w A n (L.map Prod.fst) := by
  refine ⟨by rw [List.length_map]; exact h.len, fun k hk => ?_⟩
  have hk' : k < L.length := by simpa using hk
  have hmem := List.getElem_mem hk'
  obtain ⟨X, c', e, hd⟩ := dat_own (h.data _ hmem) (h.sm _ hmem)
  have hrd := rd_own h.row
  have g : ∀ j (u : Value), (ov8 L[k])[j]? = some u → ∃ b o, A = some ⟨b, o, none⟩ ∧ w.cell? ⟨b, o + k * 4 + j, none⟩ = some u := fun j u hu => by
    have hj : j < 4 := by have := (List.getElem?_eq_some_iff.1 hu).1; simpa using this
    obtain ⟨b, o, e, hc⟩ := hrd.2 (k * 4 + j) u (by rw [ovs_at hk' hj]; exact hu)
    exact ⟨b, o, e, by rw [Nat.add_assoc]; exact hc⟩
  obtain ⟨b, o, eA, c0⟩ := g 0 _ rfl
  have g' : ∀ j (u : Value), (ov8 L[k])[j]? = some u → w.cell? ⟨b, o + k * 4 + j, none⟩ = some u := fun j u hu => by
    obtain ⟨b', o', e', hc⟩ := g j u hu
    rw [eA] at e'
    injection e' with e'
    injection e' with e1 e2
    subst e1 e2
    exact hc
  simp only [List.getElem_map]
  refine ⟨b, o, X, L[k].1.data.length, c', eA, c0, g' 1 _ rfl, g' 2 _ rfl, ?_, hd⟩
  rw [← e]
  exact g' 3 _ rfl
theorem info_op10 : (Try.prog.info? 67).map (fun i => (i.zero, i.size, i.bytes)) = some (some (.agg #[.int .i64 0, .int .i64 0, .int .i64 0, .slice none 0 0]), 4, 48) := by kernel_rfl
theorem op_info10 : ∃ i, Try.prog.info? 67 = some i ∧ i.zero = some (.agg #[.int .i64 0, .int .i64 0, .int .i64 0, .slice none 0 0]) ∧ i.size = 4 ∧ i.bytes = 48 := by
  obtain ⟨i, hi, he⟩ := Option.map_eq_some_iff.1 info_op10
  simp only [Prod.mk.injEq] at he
  exact ⟨i, hi, he.1, he.2.1, he.2.2⟩
theorem ovs_one {L : List (BOp × Value)} (h : ∀ p ∈ L, ∃ X n c, p.2 = .slice X n c) : ∀ u ∈ ovs L, u.oneCell' = true := by
  intro u hu
  obtain ⟨p, hp, hu⟩ := List.mem_flatMap.1 hu
  obtain ⟨X, n, c, e⟩ := h p hp
  simp only [ov8, e, List.mem_cons, List.not_mem_nil, or_false] at hu
  rcases hu with rfl | rfl | rfl | rfl <;> rfl
theorem rd_newo (w : World) (o : BOp) (X : Option Addr) (n c : Nat) (t : TypeId) {g : Nat} (hg : g = w.heap.size) : Rd (w.alloc (.cells (oa o (.slice X n c)) t)) (some ⟨g, 0, none⟩) 4 1 (ovs [(o, .slice X n c)]) := by
  subst hg
  exact Rd.new w (oa o (.slice X n c)) t (0, 0) (sz := 4) (n := 1) rfl
def opsV (l : List Rec) : List BOp := if chkE l = 0 then (midL l).map opOf else []
def OpsA (w w' : World) (e : Ending) (l : List Rec) : Prop :=
  ∃ (B : Option Addr) (m c : Nat) (L : List (BOp × Value)), e = .returned (.tuple #[.slice B m c, .int .i64 (chkE l)]) ∧ Olo w' w.heap.size (.slice B m c) m L ∧ L.map Prod.fst = opsV l ∧ Below w.heap.size w w'
section
variable (w : World)
set_option maxRecDepth 100000 in
set_option maxHeartbeats 8000000 in
theorem sops_ (A : Option Addr) (n c : Nat) (l : List Rec) (h : Rcl w A n l) (hnc : n ≤ c) (hc : c ≤ 9223372036854775807) (hn : n ≤ 2000002) : Calls Try.prog 46 #[.slice A n c] w fun e w' => OpsA w w' e l := by
  by_cases hE : chkE l = 0
  · have HE := Lib.hid hE
    have hV := Lib.hid (show opsV l = (midL l).map opOf by unfold opsV; rw [if_pos hE])
    have ho2 : 2 ≤ l.length := by
      unfold chkE at hE
      split at hE
      · split at hE
        · exact ord_two ‹_›
        · cases hE
      · cases hE
    clear hE
    obtain ⟨q, rfl⟩ : ∃ q, n = q + 2 := ⟨n - 2, by have := h.len; omega⟩
    obtain ⟨b, o, _, _, _, _, rfl, _⟩ := h.at_ (k := 0) (by omega)
    have hcut := h.cut 1 (q + 1) (by omega) (by omega)
    have hmid : (l.take (q + 1)).drop 1 = midL l := by
      unfold midL
      rw [List.drop_take, ← h.len]
      rfl
    rw [hmid] at hcut
    simp only [Nat.one_mul, Nat.add_sub_cancel] at hcut
    obtain ⟨M, hM⟩ : ∃ M, midL l = M := ⟨_, rfl⟩
    rw [hM] at hcut hV
    have Hq := Lib.hid hcut.len
    obtain ⟨i0, hi0, hz0, hz1, hz2⟩ := op_info10
    have Hz := Lib.hid hz2
    clear hz2 hmid hM ho2
    go_enter Try.func46, Try.ntmps46
    go_wp2_with fail
    refine (check_ _ _ (q + 2) c l h hnc hc).mono ?_
    rw [HE.out]
    rintro e w1 ⟨rfl, hb1⟩
    have hcut0 := hcut
    have hq1 : (q : Int) + 2 - 1 = (q : Int) + 1 := by omega
    have hq2 : ((q : Int) + 1).toNat = q + 1 := by omega
    have t3 : (1 : Int) ≤ (q : Int) + 1 := by omega
    have t4 : (q : Int) + 1 ≤ (c : Int) := by omega
    have t5 : q + 1 ≤ c := by omega
    have t6 : ¬ c = 1 := by omega
    have t7 : 1 ≤ c := by omega
    clear h hcut
    go_wp2_with fail
    go_loopw [5, 20] (fun lv iv wr => ∃ (i : Nat) (L : List (BOp × Value)), i ≤ q ∧ iv = .int .i64 (i : Int) ∧ Olo wr w.heap.size lv i L ∧ Hid (L.map Prod.fst = (M.take i).map opOf) ∧ Below w.heap.size w wr) (fun _ iv _ => q - (intOf iv).toNat)
    case atStart => exact ⟨0, [], Nat.zero_le _, rfl, Olo.nil _ _, Lib.hid rfl, hb1⟩
    case round =>
      obtain ⟨i, L, hi, rfl, hO, HL, hb⟩ := hrel
      obtain ⟨Al, cl, rfl, hcl, hml, hal⟩ := own_form hO.row
      by_cases hlt : i < q
      · have hil : (i : Int) < (q : Int) := by omega
        have hi0' : (0 : Int) ≤ (i : Int) := by omega
        obtain ⟨bb, oo, X, m, cc, x, eb, hx, hrc, hd⟩ := (hcut0.below hb).at_ hlt
        injection eb with eb
        injection eb with e1 e2
        subst e1 e2
        obtain ⟨c0, c1, c2, c3, c4, c5, c6, c7⟩ := hrc.all
        have HT := Lib.hid (take_snoc hx)
        have hba : Below wr.heap.size wr (wr.alloc (.cells (ra x (.slice X m cc)) 29)) := (Below.refl _ _).alloc (Nat.le_refl _) _
        have hd1 := hd.below hba
        have hdl := Lib.hid hd.len
        clear hrc hx hcut0
        go_wp2_with fail
        refine (op_ _ x X m cc).mono ?_
        rintro e w2 ⟨rfl, hb2⟩
        have hb12 : Below wr.heap.size wr w2 := below_step hba hb2 (Nat.le_refl _)
        have hd2 := hd1.below hb2
        obtain ⟨w3, hw3⟩ : ∃ w3, w2.alloc (.cells (oa (opOf x) (.slice X m cc)) 67) = w3 := ⟨_, rfl⟩
        have hb3 : Below w2.heap.size w2 w3 := by rw [← hw3]; exact (Below.refl _ _).alloc (Nat.le_refl _) _
        have hn3 : Blk w3 w2.heap.size 67 (oa (opOf x) (.slice X m cc)) := by rw [← hw3]; exact Blk.new w2 _ _ rfl
        have hb13 : Below wr.heap.size wr w3 := below_step hb12 hb3 (Nat.le_refl _)
        have hd3 := hd2.below hb3
        have n3 := hn3.cell (j := 3) (u := .slice X m cc) rfl
        clear c0 c1 c2 c3 c4 c5 c6 c7 hba hd hd1 hd2 hb2 hb3
        go_wp2_with fail
        refine (Blo.clone_ _ X m cc x.d hd3.ns hd3.nil hd3.le hd3.cap hd3.by8).mono ?_
        rintro e w4 ⟨v, rfl, hown4, hb4⟩
        obtain ⟨D, cd, rfl, hcd, hmd, had⟩ := own_form hown4
        have hb14 : Below wr.heap.size wr w4 := below_step hb13 hb4 (Nat.le_refl _)
        have hn4 := hn3.keep hb4
        have z4 := hn4.free
        have m3 := hn4.cell (j := 3) (u := .slice X m cc) rfl
        have hlt4 := hown4.lt
        have hsm : SmO (opOf x) := ⟨(opOf_dat hd3).fit, hd3.ns.2, by have := hd3.by8; have := hdl.out; show x.d.length * 8 ≤ _; omega⟩
        have hwr2 := hb12.size
        have hw13 := hb13.size
        have hw23 : w2.heap.size < w3.heap.size := hn3.lt
        obtain ⟨w5, hw5⟩ : ∃ w5, w4.setCell ⟨w2.heap.size, 3, none⟩ (.slice D m cd) = w5 := ⟨_, rfl⟩
        have hn5 : Blk w5 w2.heap.size 67 (oa (opOf x) (.slice D m cd)) := by rw [← hw5]; exact hn4.setCell 3 _
        have hb15 : Below wr.heap.size wr w5 := by rw [← hw5]; exact hb14.setCell (p := ⟨w2.heap.size, 3, none⟩) hwr2 _
        have hown5 : w5.ownsRow w3.heap.size 62 1 (.slice D m cd) m (nvs x.d) := by
          rw [← hw5]
          exact own_grown hown4 (grown_setCell w4 ⟨w2.heap.size, 3, none⟩ _) (fun k hk e => by injection e with e; simp only at e; have := hlt4 k hk; omega)
        obtain ⟨y0, y1, y2, y3⟩ := k4 hn5
        have hb6 : Below w5.heap.size w5 (w5.alloc (.cells (oa (opOf x) (.slice D m cd)) 67)) := (Below.refl _ _).alloc (Nat.le_refl _) _
        have hb16 := below_step hb15 hb6 (Nat.le_refl _)
        have hO6 := hO.keep hb16
        have hdat : (w5.alloc (.cells (oa (opOf x) (.slice D m cd)) 67)).ownsRow w.heap.size 62 1 (.slice D m cd) (opOf x).data.length (nvs (opOf x).data) := by
          show (w5.alloc (.cells (oa (opOf x) (.slice D m cd)) 67)).ownsRow w.heap.size 62 1 (.slice D m cd) x.d.length (nvs x.d)
          rw [← hdl.out]
          exact (own_keep hown5 hb6).mono (by have := hb.size; omega)
        have hB6 : Below w.heap.size w (w5.alloc (.cells (oa (opOf x) (.slice D m cd)) 67)) := hb.trans (hb16.mono hb.size)
        have hz6 := hB6.size
        have hnews : Rd (w5.alloc (.cells (oa (opOf x) (.slice D m cd)) 67)) (some ⟨w5.heap.size, 0, none⟩) 4 1 (ovs [(opOf x, .slice D m cd)]) := rd_newo w5 (opOf x) D m cd _ rfl
        have hone : ∀ u ∈ ovs [(opOf x, Value.slice D m cd)], u.oneCell' = true := ovs_one (by simp)
        have hnext := fun (v7 : Value) (w7 : World) (hown7 : w7.ownsRow w.heap.size 67 4 v7 (i + 1) (ovs L ++ ovs [(opOf x, .slice D m cd)])) (hg7 : (w5.alloc (.cells (oa (opOf x) (.slice D m cd)) 67)).grownBy w7 (Value.slice Al i cl).ownBlock) => hO6.app hg7 hown7 (fun p hp => by rw [List.mem_singleton.1 hp]; exact hdat) (fun p hp => by rw [List.mem_singleton.1 hp]; exact hsm)
        clear hown4 hown5 hn3 hn5 hd3 hb12 hb13 hb14 hb15 hb16 hb6 hO n3 hlt4 hdat
        go_wp2_with (first
          | (at_builtin
             refine wpList_app _ rfl (.tmp 30) (.tmp 32) _ rfl w.heap.size 67 i0 (.agg #[.int .i64 0, .int .i64 0, .int .i64 0, .slice none 0 0]) 4 48 Try.underlying22 hi0 hz0 hz1 Hz.out rfl (by omega) (.slice Al i cl) i (ovs L) rfl hO6.row _ 1 1 _ rfl (by simp) hnews hone (by unfold maxLen; omega) (by omega) hz6 ?_
             intro v7 w7 hown7 hg7 hat7
             have hO7 := hnext v7 w7 hown7 hg7
             have hB7 : Below w.heap.size w w7 := hB6.grown hg7 hz6 (fun k hk => (hO6.row.lt k hk).1)
             obtain ⟨A7, c7, rfl, hc7, hm7, ha7⟩ := own_form hown7))
        go_roundw
        case rel => exact ⟨i + 1, _, by omega, by go_num, hO7, Lib.hid (by rw [HT.out, List.map_append, List.map_append, HL.out]; rfl), hB7⟩
        case measure => simp [intOf]; omega
      · have hin : i = q := by omega
        subst hin
        have hT := Lib.hid (List.take_of_length_le (l := M) (i := i) (by have := Hq.out; omega))
        go_wp2
        go_ret2
        unfold OpsA
        rw [HE.out, hV.out]
        refine ⟨Al, i, cl, L, rfl, hO, ?_, hb⟩
        rw [HL.out, hT.out]
  · obtain ⟨E, hEE⟩ : ∃ E, chkE l = E := ⟨_, rfl⟩
    have hV := Lib.hid (show opsV l = [] by unfold opsV; rw [if_neg hE])
    rw [hEE] at hE
    have HEE := Lib.hid hEE
    have hE2 : (E != 0) = true := by simp [hE]
    clear hEE
    go_enter Try.func46, Try.ntmps46
    go_wp2_with fail
    refine (check_ _ A n c l h hnc hc).mono ?_
    rw [HEE.out]
    rintro e w1 ⟨rfl, hb1⟩
    go_wp2
    go_ret2
    unfold OpsA
    rw [HEE.out, hV.out]
    exact ⟨none, 0, 0, [], rfl, Olo.nil _ _, rfl, hb1⟩
end
end Str
end Go.Proofs.Ytganoklclnbjkaa
