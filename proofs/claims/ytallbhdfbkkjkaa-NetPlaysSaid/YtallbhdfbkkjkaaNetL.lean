/- Layer 15: a bag: add, Put. -/
import Derived.Test.YtallbhdfbkkjkaaNetK
import Derived.Lib.MinMax
set_option linter.all false
namespace Go.Proofs.Ytallbhdfbkkjkaa
open Go.RowKit
namespace Net
theorem clone2_ (A : Option Addr) (n c : Nat) (xs : List UInt8) (w : World) (hr : Bs w A n xs) (hnc : n ≤ c) (hc : c ≤ 9223372036854775807) (hnb : n ≤ 140737488351300) :
    Calls Try.prog 57 #[.slice A n c] w fun e w' => ∃ v, e = .returned v ∧ w'.ownsRow w.heap.size 5 1 v n (bvs xs) ∧ Below w.heap.size w w' := by
  cases A with
  | some a => exact clone_ _ _ _ _ _ hr (fun h => by cases h) hnc hc hnb
  | none =>
    obtain rfl := hr.zero rfl
    have hne := fun (w : World) (a : Option Addr) (n c : Nat) => Lib.run_eql_slice_nil (P := Try.prog) w 22 5 a n c 0 0 Try.underlying22
    have hx : xs = [] := List.eq_nil_of_length_eq_zero (by have := hr.len; omega)
    subst hx
    go_enter Try.func57, Try.ntmps57
    go_wp2
    go_ret
    exact ⟨_, rfl, own_nil _ _ _ _, Below.refl _ _⟩
theorem info_gram : (Try.prog.info? 93).map (fun i => (i.zero, i.size, i.bytes)) = some (some (.agg #[.slice none 0 0, .bool false]), 2, 32) := by kernel_rfl
theorem gram_info : ∃ i, Try.prog.info? 93 = some i ∧ i.zero = some (.agg #[.slice none 0 0, .bool false]) ∧ i.size = 2 ∧ i.bytes = 32 := by
  obtain ⟨i, hi, he⟩ := Option.map_eq_some_iff.1 info_gram
  simp only [Prod.mk.injEq] at he
  exact ⟨i, hi, he.1, he.2.1, he.2.2⟩
theorem gv_one (A : Option Addr) (n c : Nat) (g : Gr) : ∀ u ∈ gv (.slice A n c, g), u.oneCell' = true := by
  intro u hu
  simp only [gv, List.mem_cons, List.not_mem_nil, or_false] at hu
  rcases hu with rfl | rfl <;> rfl
theorem gvs_one {L : List (Value × Gr)} (h : ∀ p ∈ L, ∃ X n c, p.1 = .slice X n c) : ∀ u ∈ gvs L, u.oneCell' = true := by
  intro u hu
  obtain ⟨p, hp, hu⟩ := List.mem_flatMap.1 hu
  obtain ⟨X, n, c, e⟩ := h p hp
  simp only [gv, e, List.mem_cons, List.not_mem_nil, or_false] at hu
  rcases hu with rfl | rfl <;> rfl
/-- A datagram more: its bytes lie in a row that is younger than g0. -/
theorem BgX.push {w w3 : World} {B b g0 : Nat} {U U' : Nat → Prop} {v v' x : Value} {L : List (Value × Gr)} {d : List UInt8} {s : Bool} (h : BgX w B b U v L) (hg : w.grownBy w3 v.ownBlock)
    (hv : w3.ownsRow B 93 2 v' (L.length + 1) (gvs L ++ gv (x, ⟨d, s⟩))) (hat : v'.ownBlock = v.ownBlock ∨ v'.ownBlock = some w.heap.size)
    (hx : w.ownsRow g0 5 1 x d.length (bvs d)) (hlt : ∀ p ∈ L, ∀ g, p.1.ownBlock = some g → g < g0) (hb : b < g0) (hg0 : g0 ≤ w.heap.size)
    (hU : ∀ k, U k → U' k) (hU2 : ∀ k, g0 ≤ k → U' k) (hU3 : ¬ U' b) (hfew : L.length < 256) (hfar : d.length ≤ 140737488351300) :
    BgX (w3.setCell ⟨b, 1, none⟩ v') B b U' v' (L ++ [(x, ⟨d, s⟩)]) := by
  have hlow := h.low
  have hvb : ∀ k, v.ownBlock = some k → k ≠ b := fun k hk e => h.out (by rw [← e]; exact h.rowU k hk)
  have hv'b : ∀ k, v'.ownBlock = some k → k ≠ b := fun k hk e => by
    rcases hat with h1 | h1
    · exact hvb k (h1 ▸ hk) e
    · rw [h1] at hk; injection hk with hk; omega
  have hxr : ∀ k, x.ownBlock = some k → g0 ≤ k := fun k hk => (hx.lt k hk).1
  have hset := grown_setCell w3 ⟨b, 1, none⟩ v'
  have hx3 : w3.ownsRow g0 5 1 x d.length (bvs d) := own_grown hx hg (fun k hk e => own_ne h.row hx (by decide) (g := k) e.symm hk)
  have hp3 : ∀ p ∈ L, w3.ownsRow B 5 1 p.1 p.2.b.length (bvs p.2.b) := fun p hp => own_grown (h.data p hp) hg (fun k hk e => own_ne h.row (h.data p hp) (by decide) (g := k) e.symm hk)
  have hb3 : Blk w3 b 65 #[.pointer (some ⟨b, 0, none⟩), v] := h.blk.grown hg (fun e => hvb b e.symm rfl)
  refine ⟨by simpa using hb3.setCell 1 v', ?_, ?_, ?_, ?_, ?_, hU3, hlow, by simp; omega, ?_⟩
  · rw [gvs_snoc, List.length_append, List.length_singleton]
    exact own_grown hv hset (fun k hk e => hv'b k hk (by injection e with e))
  · intro p hp
    rcases List.mem_append.1 hp with hp | hp
    · exact own_grown (hp3 p hp) hset (fun k hk e => h.out (by injection e with e; exact (show k = b from e) ▸ h.dataU p hp k hk))
    · rw [List.mem_singleton.1 hp]
      exact (own_grown hx3 hset (fun k hk e => by injection e with e; have := hxr k hk; simp only at e; omega)).mono (by omega)
  · rw [List.pairwise_append]
    refine ⟨h.apart, by simp, fun p hp q hq g hg' e => ?_⟩
    rw [List.mem_singleton.1 hq] at e
    have h1 := hlt p hp g hg'
    have h2 := hxr g e
    omega
  · intro g hg'
    rcases hat with h1 | h1
    · exact hU g (h.rowU g (h1 ▸ hg'))
    · rw [h1] at hg'; injection hg' with hg'; exact hU2 g (by omega)
  · intro p hp g hg'
    rcases List.mem_append.1 hp with hp | hp
    · exact hU g (h.dataU p hp g hg')
    · rw [List.mem_singleton.1 hp] at hg'; exact hU2 g (hxr g hg')
  · intro p hp
    rcases List.mem_append.1 hp with hp | hp
    · exact h.far p hp
    · rw [List.mem_singleton.1 hp]; exact hfar
/-- The blocks that add turns. -/
abbrev Sv (b : Nat) (v : Value) : Nat → Prop := fun k => k = b ∨ v.ownBlock = some k
def addS (l : List Gr) (s : Bool) (gs : List (List UInt8)) : List Gr := l ++ (gs.take (256 - l.length)).map fun d => ⟨d, s⟩
theorem take_snoc {α : Type} {l : List α} {k : Nat} {x : α} (h : l[k]? = some x) : l.take (k + 1) = l.take k ++ [x] := by
  obtain ⟨hk, rfl⟩ := List.getElem?_eq_some_iff.1 h
  exact List.take_succ_eq_append_getElem hk
section
variable (w : World)
set_option maxRecDepth 100000 in
set_option maxHeartbeats 4000000 in
theorem add_ (B b : Nat) (U : Nat → Prop) (v : Value) (L : List (Value × Gr)) (h : BgX w B b U v L) (s : Bool) (A : Option Addr) (n c : Nat) (gs : List (List UInt8))
    (hgs : ∀ w1, Fu (Sv b v) w w1 → Bss w1 A n gs) (hnc : n ≤ c) (hc : c ≤ 9223372036854775807) (hlen : ∀ d ∈ gs, d.length ≤ 140737488351300) (hU : ∀ k, U k → k < w.heap.size) :
    Calls Try.prog 47 #[.pointer (some ⟨b, 0, none⟩), .bool s, .slice A n c] w fun e w' => e = .returned (.int .i64 (putN (L.map (·.2)) gs : Nat)) ∧ Bg w' B b (fun k => U k ∨ w.heap.size ≤ k) (addS (L.map (·.2)) s gs) ∧ Fu (Sv b v) w w' := by
  obtain ⟨i0, hi0', hz0, hz1, hz2⟩ := gram_info
  have Hz := Lib.hid hz2
  clear hz2
  have hG := hgs w (Fu.refl _ _)
  have Hn := Lib.hid hG.1
  have hfew := h.few
  obtain ⟨m, hm⟩ : ∃ m, L.length = m := ⟨_, rfl⟩
  have hblt := h.blk.lt
  obtain ⟨q, hq⟩ : ∃ q, min n (256 - m) = q := ⟨_, rfl⟩
  have HP := Lib.hid (show putN (L.map (·.2)) gs = q by unfold putN; rw [List.length_map, hm, ← Hn.out, hq])
  have HS := Lib.hid (show addS (L.map (·.2)) s gs = L.map (·.2) ++ (gs.take q).map fun d => (⟨d, s⟩ : Gr) by
    unfold addS; rw [List.length_map, hm]
    congr 2
    rw [← hq, Hn.out]
    exact List.take_eq_take_iff.2 (by omega))
  have hqi : min (n : Int) (256 - (m : Int)) = (q : Int) := by omega
  have hqn : (q : Int) ≤ (n : Int) := by omega
  have hq0 : (0 : Int) ≤ (q : Int) := by omega
  have hqc : (q : Int) ≤ (c : Int) := by omega
  have hqm : m + q ≤ 256 := by omega
  have Hm := Lib.hid hm
  have Hq := Lib.hid hq
  obtain ⟨A0, c0, e0, hc0, hm0, hA0⟩ := own_form h.row
  have d1 := h.blk.cell (j := 1) (u := v) rfl
  rw [e0, hm] at d1
  rw [hm] at hfew
  have hvlt := h.row.lt
  clear hm hq hG e0
  go_enter Try.func47, Try.ntmps47
  go_wp2_with fail
  go_loopw [23] (fun iv wr => ∃ (i : Nat) (v' : Value) (L' : List (Value × Gr)), i ≤ q ∧ iv = .int .i64 (i : Int) ∧ BgX wr B b (fun k => U k ∨ w.heap.size ≤ k) v' L' ∧ L'.map (·.2) = L.map (·.2) ++ (gs.take i).map (fun d => (⟨d, s⟩ : Gr)) ∧ (v'.ownBlock = v.ownBlock ∨ ∃ k, v'.ownBlock = some k ∧ w.heap.size ≤ k) ∧ Fu (Sv b v) w wr) (fun iv _ => q - (intOf iv).toNat)
  case atStart => exact ⟨0, v, L, Nat.zero_le _, rfl, h.sub (fun k hk _ => .inl hk) (fun e => e.elim h.out (by omega)), by simp, .inl rfl, Fu.refl _ _⟩
  case round =>
    obtain ⟨i, v', L', hi, rfl, hB, hL', hat', hF⟩ := hrel
    by_cases hlt : i < q
    · have hil : (i : Int) < (q : Int) := by omega
      have hi0 : (0 : Int) ≤ (i : Int) := by omega
      have hG := hgs wr hF
      have hil2 : i < gs.length := by have := Hn.out; omega
      obtain ⟨ba, oa, X, nx, cx, rfl, hcx, hnx, hcx2, hbx⟩ := hG.2 i hil2
      have hdl := hlen gs[i] (List.getElem_mem hil2)
      have Hx := Lib.hid hbx.len
      have HT := Lib.hid (take_snoc (List.getElem?_eq_getElem hil2))
      obtain ⟨d, hd⟩ : ∃ d, gs[i] = d := ⟨_, rfl⟩
      rw [hd] at hbx hdl Hx HT
      have HL := Lib.hid hL'
      have hml : L'.length = m + i := by
        have := congrArg List.length HL.out
        rw [List.length_map, List.length_append, List.length_map, List.length_map, List.length_take, Hm.out] at this
        omega
      obtain ⟨A1, c1, rfl, hc1, hm1, hA1⟩ := own_form hB.row
      obtain ⟨m', hm'⟩ : ∃ m', L'.length = m' := ⟨_, rfl⟩
      have e1 := hB.blk.cell (j := 1) (u := .slice A1 L'.length c1) rfl
      rw [hm'] at e1 hc1 hA1
      have hmm : m' < 256 := by omega
      have Hm' := Lib.hid hm'
      have hnx3 : nx ≤ 140737488351300 := by have := Hx.out; omega
      have hbr := hB.blk.lt
      have hsz := hF.size
      unfold maxLen at hm1
      have hBw := hB.drew
      have hrow : wr.drew.ownsRow B 93 2 (.slice A1 m' c1) m' (gvs L') := by have := hB.row; rwa [Hm'.out] at this
      have hplt : ∀ p ∈ L', ∀ g, p.1.ownBlock = some g → g < wr.heap.size := fun p hp g hg => ((hB.data p hp).lt g hg).2
      have hBb := hB.low
      have Hhat := Lib.hid hat'
      have HBB := Lib.hid hB
      clear hL' hml hm' hG hd d1 hat' hB
      go_wp2_with fail
      go_region_law (first
        | (refine step_app _ rfl (.tmp 31) (.tmp 36) _ rfl B 93 i0 _ 2 32 Try.underlying63 hi0' hz0 hz1 Hz.out rfl (by omega) (.slice A1 m' c1) m' (gvs L') rfl hown3 _ 1 1 (gv (.slice X2 nx cx2, ⟨d, s⟩)) rfl (by simp) hnew (gv_one _ _ _ _) (by unfold maxLen; omega) (by omega) (by omega) ?_
           intro v4 w4 hown4 hg4 hat4
           obtain ⟨A4, c4, rfl, hc4, hm4, hA4⟩ := own_form hown4
           have hk4 : Blk w4 b 65 #[.pointer (some ⟨b, 0, none⟩), .slice A1 m' c1] := hb3.grown hg4 (fun e => hvb3 b e.symm rfl)
           have k4 := hk4.cell (j := 1) (u := .slice A1 m' c1) rfl
           have f4 := hk4.free 1)
        | (go_simp
           go_at_call 57
           refine (clone2_ X nx cx d _ (Bs.drew hbx) hnx hcx2 hnx3).mono ?_
           rintro e w2 ⟨x2, rfl, hx2, hb2⟩
           obtain ⟨X2, cx2, rfl, hcx2', hmx2, hAx2⟩ := own_form hx2
           have hB2 := hBw.keep hb2
           have hB3 := hB2.keep (w' := w2.alloc (.cells #[.slice X2 nx cx2, .bool s] 93)) ((Below.refl _ _).alloc (Nat.le_refl _) _)
           have hown3 : (w2.alloc (.cells #[.slice X2 nx cx2, .bool s] 93)).ownsRow B 93 2 (.slice A1 m' c1) m' (gvs L') := by have := hB3.row; rwa [Hm'.out] at this
           have hb3 : Blk (w2.alloc (.cells #[.slice X2 nx cx2, .bool s] 93)) b 65 #[.pointer (some ⟨b, 0, none⟩), .slice A1 m' c1] := by have := hB3.blk; rwa [Hm'.out] at this
           have e2 : w2.cell? ⟨b, 1, none⟩ = some (.slice A1 m' c1) := by have := hB2.blk; rw [Hm'.out] at this; exact this.cell rfl
           have e3 : (w2.alloc (.cells #[.slice X2 nx cx2, .bool s] 93)).cell? ⟨b, 1, none⟩ = some (.slice A1 m' c1) := hb3.cell rfl
           have hvb3 : ∀ k, (Value.slice A1 m' c1).ownBlock = some k → k ≠ b := fun k hk e => hB3.out (e ▸ hB3.rowU k (by rw [Hm'.out]; exact hk))
           have hnew : Rd (w2.alloc (.cells #[.slice X2 nx cx2, .bool s] 93)) (some ⟨w2.heap.size, 0, none⟩) 2 1 (gv (.slice X2 nx cx2, ⟨d, s⟩)) := Rd.new w2 #[.slice X2 nx cx2, .bool s] _ (0, 0) (sz := 2) (n := 1) rfl
           have hsz2 : wr.heap.size ≤ w2.heap.size := hb2.size
           have hsz3 : (w2.alloc (.cells #[.slice X2 nx cx2, .bool s] 93)).heap.size = w2.heap.size + 1 := by simp))
      all_goals (
        go_wp2
        have hB3' : BgX (w2.alloc (.cells #[.slice X2 nx cx2, .bool s] 93)) B b (fun k => U k ∨ w.heap.size ≤ k) (.slice A1 m' c1) L' := by have := hB3; rwa [Hm'.out] at this
        have hown4' : w4.ownsRow B 93 2 (.slice A4 (m' + 1) c4) (L'.length + 1) (gvs L' ++ gv (.slice X2 nx cx2, ⟨d, s⟩)) := by rw [Hm'.out]; exact hown4
        have hx3 : (w2.alloc (.cells #[.slice X2 nx cx2, .bool s] 93)).ownsRow wr.heap.size 5 1 (.slice X2 nx cx2) d.length (bvs d) := by rw [← Hx.out]; exact own_keep hx2 ((Below.refl _ _).alloc (Nat.le_refl _) _)
        have hBX := hB3'.push (U' := fun k => U k ∨ w.heap.size ≤ k) hg4 hown4' hat4 hx3 hplt hbr (by omega) (fun k e => e) (fun k e => .inr (by omega)) HBB.out.out (by rw [Hm'.out]; exact hmm) hdl
        have hh : ∀ j, (Value.slice A1 m' c1).ownBlock = some j → Sv b v j ∨ w.heap.size ≤ j := fun j e => by
          have q := Hhat.out
          rw [Hm'.out] at q
          rcases q with q | ⟨k, q, hk⟩
          · exact .inl (.inr (q ▸ e))
          · rw [q] at e; injection e with e; exact .inr (by omega)
        have f1 : Fu (Sv b v) w w2 := hF.step (row := none) (below_grown (show Below wr.heap.size wr w2 from ⟨hb2.os, hb2.tape, hb2.output, hb2.size, hb2.block⟩) none) (fun j e => by cases e)
        have f2 := f1.step (World.grownBy_alloc w2 (.cells #[.slice X2 nx cx2, .bool s] 93) none) (fun j e => by cases e)
        have f3 := f2.step hg4 hh
        have f4 := f3.step (grown_setCell w4 ⟨b, 1, none⟩ (.slice A4 (m' + 1) c4)) (fun j e => by injection e with e; exact .inl (.inl e.symm))
        have hat5 : (Value.slice A4 (m' + 1) c4).ownBlock = v.ownBlock ∨ ∃ k, (Value.slice A4 (m' + 1) c4).ownBlock = some k ∧ w.heap.size ≤ k := by
          rcases hat4 with q | q
          · have q2 := Hhat.out
            rw [Hm'.out] at q2
            rcases q2 with q2 | ⟨k, q2, hk⟩
            · exact .inl (q.trans q2)
            · exact .inr ⟨k, q.trans q2, hk⟩
          · exact .inr ⟨_, q, by omega⟩
        refine ⟨⟨i + 1, _, _, by omega, by go_num, hBX, ?_, hat5, f4⟩, by simp [intOf]; omega⟩
        rw [List.map_append, HL.out, HT.out, List.map_append, List.append_assoc]
        rfl)
    · have hin : i = q := by omega
      subst hin
      go_wp2
      go_ret
      rw [HP.out, HS.out, ← hL']
      exact ⟨rfl, ⟨v', L', rfl, hB⟩, hF⟩
end
end Net
end Go.Proofs.Ytallbhdfbkkjkaa
