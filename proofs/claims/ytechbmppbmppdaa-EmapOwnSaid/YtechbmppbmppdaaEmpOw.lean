/- Proves EmapOwn of layer 6 (emap), for every input, with no condition: lists are not turned, and what was answered may be written over. -/
import Derived.Test.YtechbmppbmppdaaEmpW
namespace Go.Proofs.Ytechbmppbmppdaa
open Go.ChangeShapes Go.WideShapes Go.ChangeAt Go.RowKit

/-- A slice whose cells are the call's own, in new memory from B on, whatever they hold. -/
def Mine (w : World) (B : Nat) (A : Option Addr) (m : Nat) : Prop := m = 0 ∨ ∃ g cap cur, A = some ⟨g, 0, none⟩ ∧ B ≤ g ∧ Blk w g 32 cur ∧ m ≤ cap ∧ cur.size = cap * 4
theorem mine_of {w : World} {B : Nat} {A : Option Addr} {m c : Nat} {l : List Ext} (h : Got w B A m c l) : Mine w B A m := by
  rcases h.own.2 with ⟨_, h0⟩ | ⟨g, cap, cur, hv, hg, hh, hnc, hcm, hcs, hx⟩
  · exact .inl h0
  · injection hv with hA _ _
    exact .inr ⟨g, cap, cur, hA, hg, hh, hnc, hcs⟩
theorem Mine.keep {w w' : World} {B : Nat} {A : Option Addr} {m : Nat} (h : Mine w B A m) (hb : Below w.heap.size w w') : Mine w' B A m :=
  h.imp id fun ⟨g, cap, cur, h1, h2, h3, h4⟩ => ⟨g, cap, cur, h1, h2, h3.keep hb, h4⟩
theorem Mine.set {w : World} {B : Nat} {A : Option Addr} {m g o : Nat} {cur : Array Value} {vs : List Value} (h : Mine w B A m) (hb : Blk w g 32 cur) (hv : o + vs.length ≤ cur.size) : Mine (w.setCells g o vs) B A m := by
  rcases h with h | ⟨g', cap, cur', h1, h2, h3, h4, h5⟩
  · exact .inl h
  · right
    by_cases e : g' = g
    · subst e
      have h3' : w.heap[g']? = some (.cells cur' 32 (0, 0)) := h3
      have hb' : w.heap[g']? = some (.cells cur 32 (0, 0)) := hb
      rw [h3'] at hb'
      injection hb' with hb'
      injection hb' with hc
      subst hc
      exact ⟨g', cap, _, h1, h2, h3.sets hv, h4, by simp; omega⟩
    · exact ⟨g', cap, cur', h1, h2, (Tn.sets (lo := g) (hi := g + 1) (Nat.le_refl _) (Nat.lt_succ_self _) vs o w).blk h3 (by omega), h4, h5⟩
abbrev Rows3 : Type := List (Option Addr × Nat × Nat)
def slicesOf (R : Rows3) : Array Value := (R.map fun r => Value.slice r.1 r.2.1 r.2.2).toArray
/-- Behind some cells' being written over. -/
structure Over (w : World) (B : Nat) (R : Rows3) (gs : Nat) : Prop where
  mine : ∀ r ∈ R, Mine w B r.1 r.2.1
  list : Blk w gs 22 (slicesOf R)
theorem Over.set {w : World} {B : Nat} {R : Rows3} {gs g o : Nat} {cur : Array Value} {vs : List Value} (h : Over w B R gs) (hb : Blk w g 32 cur) (hv : o + vs.length ≤ cur.size) : Over (w.setCells g o vs) B R gs := by
  refine ⟨fun r hr => (h.mine r hr).set hb hv, (Tn.sets (lo := g) (hi := g + 1) (Nat.le_refl _) (Nat.lt_succ_self _) vs o w).blk h.list ?_⟩
  have hne : gs ≠ g := by
    intro e
    subst e
    have h1 : w.heap[gs]? = _ := h.list
    have h2 : w.heap[gs]? = _ := hb
    rw [h1] at h2
    simp at h2
  omega
theorem Over.at_ {w : World} {B : Nat} {R : Rows3} {gs j : Nat} (h : Over w B R gs) (hj : j < R.length) : w.cell? ⟨gs, j, none⟩ = some (.slice R[j].1 R[j].2.1 R[j].2.2) :=
  h.list.cell (by simp [slicesOf, hj])
theorem eo_zero {w : World} {B m : Nat} {A : Option Addr} {c : Nat} {l : List Ext} (h : Eo w B (.slice A m c) m l) : ∀ j, (Value.slice A m c).ownBlock = some j → j < w.heap.size := fun j hj => (h.lt j hj).2

set_option maxRecDepth 100000 in
set_option maxHeartbeats 8000000 in
theorem emapOwn_walk (w : World) (A : Option Addr) (n c : Nat) (l : List Ext) (h : Es w A n l) (hn : n ≤ 9223372036854775807) (hc : n * 32 ≤ 140737488355328) (hA : A = none → n = 0) (x : Ext) (fx : Fit x) :
    Calls Try.prog 9 #[.slice A n c, .agg #[.int .i64 x.off, .int .i64 x.len, .int .i64 x.phys, .int .i64 x.birth]] w fun e w' => e = .returned (.bool true) ∧ Below w.heap.size w w' := by
  obtain ⟨i0, hi0, hz0, hz1, hz2⟩ := ext_info
  have Hz := Lib.hid hz2
  clear hz2
  obtain ⟨er, her⟩ : ∃ z, errOf (rightB l && x.may) = z := ⟨_, rfl⟩
  obtain ⟨res, hres⟩ : ∃ z, ifL (rightB l && x.may) (putL l x) = z := ⟨_, rfl⟩
  have Her := Lib.hid her
  have Hres := Lib.hid hres
  clear her hres
  have Hl := Lib.hid h.len
  have hac := Blk.new w 32 #[.int .i64 x.off, .int .i64 x.len, .int .i64 x.phys, .int .i64 x.birth] rfl
  have hba : Below w.heap.size w (w.alloc (.cells #[.int .i64 x.off, .int .i64 x.len, .int .i64 x.phys, .int .i64 x.birth] 32)) := (Below.refl _ _).alloc (Nat.le_refl _) _
  have h0 := h.below hba
  clear h
  go_enter Try.func9, Try.ntmps9
  go_wp2_with (first
    | (at_builtin
       go_must (refine wpList_app _ rfl (.const (.slice none 0 0)) (.tmp 23) _ rfl (w.heap.size + 1) 32 i0 _ 4 32 Try.underlying22 hi0 hz0 hz1 Hz.out rfl (by decide) (.slice none 0 0) 0 [] rfl (own_nil _ _ _ _) A n c (evs l) rfl hA h0.rd (evs_one _) (by unfold maxLen; omega) (by omega) (by simp) ?_)
       intro v1 w1 hown1 hg1 hat1
       have ho1 : Eo w1 (w.heap.size + 1) v1 (0 + n) l := eo_of hown1 (List.nil_append _)
       rw [Nat.zero_add] at ho1
       have hb01 : Below (w.alloc (.cells #[.int .i64 x.off, .int .i64 x.len, .int .i64 x.phys, .int .i64 x.birth] 32)).heap.size (w.alloc (.cells #[.int .i64 x.off, .int .i64 x.len, .int .i64 x.phys, .int .i64 x.birth] 32)) w1 := (Below.refl _ _).grown hg1 (Nat.le_refl _) (fun k hk => by cases hk)
       have hac1 := hac.keep hb01
       have d0 := hac1.cell (j := 0) (u := .int .i64 x.off) rfl
       have d1 := hac1.cell (j := 1) (u := .int .i64 x.len) rfl
       have d2 := hac1.cell (j := 2) (u := .int .i64 x.phys) rfl
       have d3 := hac1.cell (j := 3) (u := .int .i64 x.birth) rfl)
    | fail)
  have h1 := h0.below hb01
  have hb1 : Below w.heap.size w w1 := below_step hba hb01 (Nat.le_refl _)
  clear h0 hba hac hb01 hg1 hat1 hown1
  obtain ⟨Aw, cw, rfl, -, -, -⟩ := own_form ho1
  have hwas := eo_es ho1 h1.fit
  clear ho1
  refine (put_ w1 A n c l h1 hn x fx).mono ?_
  rw [Her.out, Hres.out]
  rintro e w2 ⟨A2, m2, c2, rfl, g2, hb⟩
  clear d0 d1 d2 d3
  have q2 := mine_of g2
  have z2 := g2.le
  clear g2
  have hac2 := hac1.keep hb
  have d0 := hac2.cell (j := 0) (u := .int .i64 x.off) rfl
  have d1 := hac2.cell (j := 1) (u := .int .i64 x.len) rfl
  have d2 := hac2.cell (j := 2) (u := .int .i64 x.phys) rfl
  have d3 := hac2.cell (j := 3) (u := .int .i64 x.birth) rfl
  go_wp2_with fail
  refine (cut_ w2 A n c l (h1.below hb) hn x.off x.len fx.off fx.len).mono ?_
  rintro e w3 ⟨A3, m3, c3, rfl, g3, hbk⟩
  have q3 : Mine w3 w1.heap.size A3 m3 := mine_of (g3.mono hb.size)
  replace hb := below_step hb hbk (Nat.le_refl _)
  replace q2 := q2.keep hbk
  have z3 := g3.le
  clear g3 hbk hac2 d0 d1 d2 d3
  have hac2 := hac1.keep hb
  have d0 := hac2.cell (j := 0) (u := .int .i64 x.off) rfl
  have d1 := hac2.cell (j := 1) (u := .int .i64 x.len) rfl
  have d2 := hac2.cell (j := 2) (u := .int .i64 x.phys) rfl
  have d3 := hac2.cell (j := 3) (u := .int .i64 x.birth) rfl
  go_wp2_with fail
  refine (partU w3 A n c l (h1.below hb) hn x.off x.len fx.off fx.len).mono ?_
  rintro e w4 ⟨A4, m4, c4, rfl, g4, hbk⟩
  have q4 : Mine w4 w1.heap.size A4 m4 := mine_of (g4.mono hb.size)
  replace hb := below_step hb hbk (Nat.le_refl _)
  replace q2 := q2.keep hbk
  replace q3 := q3.keep hbk
  have z4 := g4.le
  clear g4 hbk hac2 d0 d1 d2 d3
  have hac2 := hac1.keep hb
  have d0 := hac2.cell (j := 0) (u := .int .i64 x.off) rfl
  have d1 := hac2.cell (j := 1) (u := .int .i64 x.len) rfl
  have d2 := hac2.cell (j := 2) (u := .int .i64 x.phys) rfl
  have d3 := hac2.cell (j := 3) (u := .int .i64 x.birth) rfl
  go_wp2_with fail
  refine (since_ w4 A n c l (h1.below hb) hn 0).mono ?_
  rintro e w5 ⟨A5, m5, c5, rfl, g5, hbk⟩
  have q5 : Mine w5 w1.heap.size A5 m5 := mine_of (g5.mono hb.size)
  replace hb := below_step hb hbk (Nat.le_refl _)
  replace q2 := q2.keep hbk
  replace q3 := q3.keep hbk
  replace q4 := q4.keep hbk
  have z5 := g5.le
  clear g5 hbk hac2 d0 d1 d2 d3
  have hac2 := hac1.keep hb
  have d0 := hac2.cell (j := 0) (u := .int .i64 x.off) rfl
  have d1 := hac2.cell (j := 1) (u := .int .i64 x.len) rfl
  have d2 := hac2.cell (j := 2) (u := .int .i64 x.phys) rfl
  have d3 := hac2.cell (j := 3) (u := .int .i64 x.birth) rfl
  go_wp2_with fail
  refine (form_ w5 A n c l (h1.below hb) hn ).mono ?_
  rintro e w6 ⟨A6, m6, c6, rfl, g6, hbk⟩
  have q6 : Mine w6 w1.heap.size A6 m6 := mine_of (g6.mono hb.size)
  replace hb := below_step hb hbk (Nat.le_refl _)
  replace q2 := q2.keep hbk
  replace q3 := q3.keep hbk
  replace q4 := q4.keep hbk
  replace q5 := q5.keep hbk
  have z6 := g6.le
  clear g6 hbk hac2 d0 d1 d2 d3
  obtain ⟨R, hR⟩ : ∃ R : Rows3, R = [(A2, m2, c2), (A3, m3, c3), (A4, m4, c4), (A5, m5, c5), (A6, m6, c6)] := ⟨_, rfl⟩
  have hRl : R.length = 5 := by rw [hR]; rfl
  have hRs : slicesOf R = #[.slice A2 m2 c2, .slice A3 m3 c3, .slice A4 m4 c4, .slice A5 m5 c5, .slice A6 m6 c6] := by rw [hR]; rfl
  have hRm : ∀ r ∈ R, Mine w6 w1.heap.size r.1 r.2.1 ∧ r.2.1 ≤ 9223372036854775807 := by
    intro r hr
    rw [hR] at hr
    simp only [List.mem_cons, List.not_mem_nil, or_false] at hr
    rcases hr with rfl | rfl | rfl | rfl | rfl
    · exact ⟨q2, z2⟩
    · exact ⟨q3, z3⟩
    · exact ⟨q4, z4⟩
    · exact ⟨q5, z5⟩
    · exact ⟨q6, z6⟩
  have hbG : Below w6.heap.size w6 (w6.alloc (.cells #[.slice A2 m2 c2, .slice A3 m3 c3, .slice A4 m4 c4, .slice A5 m5 c5, .slice A6 m6 c6] 22)) := (Below.refl _ _).alloc (Nat.le_refl _) _
  have hO : Over (w6.alloc (.cells #[.slice A2 m2 c2, .slice A3 m3 c3, .slice A4 m4 c4, .slice A5 m5 c5, .slice A6 m6 c6] 22)) w1.heap.size R w6.heap.size :=
    ⟨fun r hr => (hRm r hr).1.keep hbG, by rw [hRs]; exact Blk.new w6 _ _ rfl⟩
  have hb7 := below_step hb hbG (Nat.le_refl _)
  have hRz : ∀ r ∈ R, r.2.1 ≤ 9223372036854775807 := fun r hr => (hRm r hr).2
  clear hR hRs hRm hbG hb q2 q3 q4 q5 q6 z2 z3 z4 z5 z6
  go_wp2_with fail
  generalize (w6.alloc (.cells #[.slice A2 m2 c2, .slice A3 m3 c3, .slice A4 m4 c4, .slice A5 m5 c5, .slice A6 m6 c6] 22)) = w7 at *
  generalize w6.heap.size = gs at *
  go_loopw [66] (fun iv wr => ∃ j : Nat, j ≤ 5 ∧ iv = .int .i64 (j : Int) ∧ Over wr w1.heap.size R gs ∧ Below w1.heap.size w1 wr) (fun iv _ => 5 - (intOf iv).toNat)
  case atStart => exact ⟨0, Nat.zero_le _, rfl, hO, hb7⟩
  case round =>
    obtain ⟨j, hj, rfl, hOr, hbr⟩ := hrel
    obtain ⟨wo, rfl⟩ : ∃ wo : World, wo = wr := ⟨_, rfl⟩
    clear hO hb7
    by_cases hlt : j < 5
    · have hjl : (j : Int) < 5 := by omega
      have hj0 : (0 : Int) ≤ (j : Int) := by omega
      have hjR : j < R.length := by omega
      have ck := hOr.at_ hjR
      have hmm : ∀ W, Over W w1.heap.size R gs → Mine W w1.heap.size R[j].1 R[j].2.1 := fun W hW => hW.mine _ (List.getElem_mem hjR)
      have hzz := hRz _ (List.getElem_mem hjR)
      generalize R[j].1 = Ak at *
      generalize R[j].2.1 = mk at *
      generalize R[j].2.2 = ckk at *
      go_wp2_with fail
      clear ck
      go_loopw [72] (fun iv wx => ∃ i : Nat, i ≤ mk ∧ iv = .int .i64 (i : Int) ∧ Over wx w1.heap.size R gs ∧ Below w1.heap.size w1 wx) (fun iv _ => mk - (intOf iv).toNat)
      case atStart => exact ⟨0, Nat.zero_le _, rfl, hOr, hbr⟩
      case round =>
        obtain ⟨i, hi, rfl, hOx, hbx⟩ := hrel
        clear hOr hbr
        by_cases hil : i < mk
        · have hii : (i : Int) < (mk : Int) := by omega
          have hi0 : (0 : Int) ≤ (i : Int) := by omega
          rcases hmm _ hOx with h0 | ⟨g, cap, cur, rfl, hg, hblk, hmc, hcs⟩
          · omega
          · have hth : wr.there g (i * 4) 4 := hblk.there _ _ (by omega)
            have hO2 : Over (wr.setCells g (i * 4) [.int .i64 (-1), .int .i64 0, .int .i64 0, .int .i64 0]) w1.heap.size R gs := hOx.set hblk (by simp only [List.length_cons, List.length_nil]; omega)
            have hB2 : Below w1.heap.size w1 (wr.setCells g (i * 4) [.int .i64 (-1), .int .i64 0, .int .i64 0, .int .i64 0]) := hbx.trans ((Tn.sets (lo := g) (hi := g + 1) (Nat.le_refl _) (Nat.lt_succ_self _) _ (i * 4) wr).below hg hbx.size)
            clear hOx hbx hblk hcs hmc
            go_wp2_with (first
              | (refine wpList_store_mid rfl 32 _ _ rfl g (i * 4) #[.int .i64 (-1), .int .i64 0, .int .i64 0, .int .i64 0] rfl rfl hth (by kernel_rfl) (by simp [Value.oneCell']) ?_
                 rw [show (#[Value.int .i64 (-1), Value.int .i64 0, Value.int .i64 0, Value.int .i64 0] : Array Value).toList = [.int .i64 (-1), .int .i64 0, .int .i64 0, .int .i64 0] from rfl]
                 generalize wr.setCells g (i * 4) [.int .i64 (-1), .int .i64 0, .int .i64 0, .int .i64 0] = wy at *)
              | fail)
            go_roundw
            case rel => exact ⟨i + 1, by omega, by go_num, hO2, hB2⟩
            case measure => simp [intOf]; omega
        · have hin : (mk : Int) ≤ (i : Int) := by omega
          go_wp2
          go_roundw
          case rel => exact ⟨j + 1, by omega, by go_num, hOx, hbx⟩
          case measure => simp [intOf]; omega
    · have hin : (5 : Int) ≤ (j : Int) := by omega
      have h8 := h1.below hbr
      have hw8 := hwas.below hbr
      have hac8 := hac1.keep hbr
      have hB8 := below_step hb1 hbr (Nat.le_refl _)
      have d0 := hac8.cell (j := 0) (u := .int .i64 x.off) rfl
      have d1 := hac8.cell (j := 1) (u := .int .i64 x.len) rfl
      have d2 := hac8.cell (j := 2) (u := .int .i64 x.phys) rfl
      have d3 := hac8.cell (j := 3) (u := .int .i64 x.birth) rfl
      clear hOr hbr h1 hwas
      go_wp2_with fail
      refine (put_ wo A n c l h8 hn x fx).mono ?_
      rw [Her.out, Hres.out]
      rintro e w9 ⟨A9, m9, c9, rfl, g9, hb9⟩
      have hac9 := hac8.keep hb9
      clear d0 d1 d2 d3
      have d0 := hac9.cell (j := 0) (u := .int .i64 x.off) rfl
      have d1 := hac9.cell (j := 1) (u := .int .i64 x.len) rfl
      have d2 := hac9.cell (j := 2) (u := .int .i64 x.phys) rfl
      have d3 := hac9.cell (j := 3) (u := .int .i64 x.birth) rfl
      have hw9 := hw8.below hb9
      have h9 := h8.below hb9
      have hB9 := below_step hB8 hb9 (Nat.le_refl _)
      go_wp2_with fail
      refine (rput_ w9 Aw n cw l hw9 hn x fx).mono ?_
      rw [Her.out, Hres.out]
      rintro e wa ⟨Aa, ma, ca, rfl, ga, hba⟩
      have hwa := hw9.below hba
      have ha := h9.below hba
      have g9a := g9.keep hba
      have hBa := below_step hB9 hba (Nat.le_refl _)
      clear d0 d1 d2 d3 g9 hw9 h9 hw8 h8 hb9 hba hB8 hB9
      go_wp2_with fail
      refine (same_ wa A Aw n n c cw l ha hwa hn).mono ?_
      rintro e wb ⟨kb, rfl, rfl⟩
      go_wp2_with fail
      refine (same_ _ A9 Aa m9 ma c9 ca res (g9a.drewN kb).es (ga.drewN kb).es g9a.le).mono ?_
      rintro e wc ⟨kc, rfl, rfl⟩
      go_wp2_with fail
      refine (alive_ _).mono ?_
      rintro e wd ⟨rfl, hbd⟩
      go_wp2
      go_ret
      exact ⟨rfl, below_step hBa (⟨hbd.os, hbd.tape, hbd.output, hbd.size, hbd.block⟩ : Below wa.heap.size wa wd) (Nat.le_refl _)⟩


set_option maxRecDepth 100000 in
theorem emapOwn_lifted (os : Os) (started : os.Started) (H : Type) (enc : TypeId × Value → H) :
    ReturnsInHanded {} Try.checked os 9 .any (Rows.emapOwnSpec.pre6 enc Try.prog Try.f9 Rows.emapOwnRow.domain false) (Rows.emapOwnSpec.post enc Try.prog Try.f9 false true false false) := by
  refine law_lifted (C := Try.checked) (tb := 4) own_ started (by kernel_rfl) Try.func9
    (ChangeSpec.witness6 (enc := enc) (C := Try.checked) false ⟨#[], #[.slice none 0 0, .agg #[.int .i64 0, .int .i64 0, .int .i64 0, .int .i64 0]], []⟩ 8 (by kernel_rfl) (by kernel_rfl) (by kernel_rfl) (by kernel_rfl))
    rfl rfl Try.underlying4 laidOut_ (by kernel_rfl) (fun ds h => by match ds, h with | [_, _], _ => rfl) ?_
  intro W base args ds p hval0 hA0 _ hsz0
  have hval : ∀ (j : Nat) t v, Try.f9.params[j]? = some t → args[j]? = some v → Value.okWide Try.prog W .any base t v := hval0
  have hA : DataW.TrodAll enc Try.prog W 0 (fun _ => true) true Try.f9.params.toList args.toList ds p := hA0
  have hsz : (DataW.weightsEach Try.prog Try.f9.params.toList ds).all (· ≤ reachBytes) = true := hsz0
  clear hval0 hA0 hsz0
  rw [Try.params9] at hA hval hsz
  obtain ⟨v0, v1, d0, d1, p0, p1, rfl, rfl, rfl, h0, h1⟩ := trodAll_two hA
  obtain ⟨A0, n0, c0, xs0, rfl, r0, b0⟩ := arg_slice ops_exts Try.underlying22 (hval 0 _ v0 rfl rfl) h0 (weight_at hsz (j := 0) rfl rfl)
  obtain ⟨cs1, a1, rfl, r1, b1⟩ := arg_struct ops_ext Try.underlying32 (hval 1 _ v1 rfl rfl) h1 (weight_at hsz (j := 1) rfl rfl)
  obtain ⟨es0, hn0, hc0, ha0⟩ := exts_es r0
  obtain ⟨rfl, fx⟩ := ext_arr r1
  exact emapOwn_walk W A0 n0 c0 _ es0 (by omega) (by omega) (fun e => by have := ha0 e; omega) _ fx

/-- EmapOwn, for every input: the statement as it was given. -/
theorem emapOwn_holds : Rows.EmapOwnSaid :=
  OpenClaim.holds_of_wide 9 Try.f9 rfl rfl rfl rfl rfl rfl rfl ⟨rfl, rfl, rfl, rfl, rfl⟩ rfl rfl rfl rfl rfl (by kernel_rfl) Try.func9 (by kernel_rfl)
    (of_decide_eq_true (by kernel_rfl)) (by unfold Func.isWrapper; first | (rw [if_pos (by decide +kernel)]; kernel_rfl) | (rw [if_neg (by decide +kernel)]; exact ⟨rfl, rfl⟩))
    (fun os started H enc _ => emapOwn_lifted os started H enc)
end Go.Proofs.Ytechbmppbmppdaa
