/- LandAgain: a stream that has landed is not taken again, and turns nothing: for all lists of ops of bulk at most 1048576, and all bases. -/
import Derived.Test.YtganoklclnbjkaaLanB1
set_option linter.all false
namespace Go.Proofs.Ytganoklclnbjkaa
open Go.ChangeShapes Go.WideShapes Go.ChangeAt Go.RowKit
namespace Lan
open Str (Rec mayB FitR Rdt Rcl RC ra rv RecV recShp toRec rec_arr ops_rec k8 rc_of own_ laidOut_ bldL recOp tailR)
open Blo (I64 GotN AnsN apL)
def hA : Rec := ⟨1, 0, 4, 0, 0, 0, 30, []⟩
theorem hA_fit : FitR hA := ⟨i64s (by decide) (by decide), i64s (by decide) (by decide), i64s (by decide) (by decide), i64s (by decide) (by decide), i64s (by decide) (by decide), i64s (by decide) (by decide), i64s (by decide) (by decide)⟩
theorem hA_may : mayB hA = true := by decide +kernel
/-- The berth behind the stream. -/
def agF (ops : List BOp) : BS := { newS 0 0 30 with num := 4, vol := apL (List.replicate 30 0) ops, c := a0, y := a0 }
theorem words_same2 (w : World) (A B : Option Addr) (n m c d : Nat) (a : List Nat) (ha : Ns w A n a) (hb : Ns w B m a) (hn : n ≤ 9223372036854775807) :
    Calls Try.prog 17 #[.slice A n c, .slice B m d] w fun e w' => e = .returned (.bool true) ∧ ∃ k, w' = w.drewN k := by
  have := Blo.words_ w A B n m c d a a ha hb hn
  rwa [decide_eq_true rfl] at this
section
variable (w : World)
set_option maxRecDepth 100000 in
set_option maxHeartbeats 16000000 in
theorem again_walk (S : Option Addr) (n c : Nat) (ops : List BOp) (ho : Blo.Opl w S n ops) (hn : n ≤ 2000000) (z : Int) (hz : I64 z) :
    Calls Try.prog 7 #[.slice S n c, .int .i64 z] w fun e w' => e = .returned (.bool true) ∧ Below w.heap.size w w' := by
  go_enter Try.func7, Try.ntmps7
  go_wp2_with fail
  refine (rbuild_ w hA hA_fit rfl rfl hA_may S n c ops ho hn).mono ?_
  rintro e w1 (⟨er, hne, rfl, hb1⟩ | ⟨B, m, d, L, rfl, hRw, hLL, hgood, hb1⟩)
  · have hne2 : (er != 0) = true := by simpa using hne
    clear hne
    go_wp2_with fail
    refine (new_ w1 0 0 30 (Int.le_refl _) zi64 (Int.le_refl _) zi64 (by omega)).mono ?_
    rintro e w2 ⟨b, rfl, hB2, hbb, hb2⟩
    go_wp2_with fail
    refine (alive_ w2).mono ?_
    rintro e w3 ⟨rfl, hb3⟩
    have hB3 := below_step (below_step hb1 hb2 (Nat.le_refl _)) hb3 (Nat.le_refl _)
    go_wp2
    go_ret
    exact ⟨rfl, hB3⟩
  · have hst : Stm 30 hA ops := stm_of (by omega) rfl rfl rfl hgood
    have hmL : m = ops.length + 2 := by rw [hRw.len, ← bld_len hA ops, ← hLL, List.length_map]
    have hops := ho.len
    obtain ⟨g, rfl, hgl, hgh⟩ := rw_block hRw (by omega)
    have hm9 : m ≤ 9223372036854775807 := by omega
    have Hml := Lib.hid hmL
    clear hmL hgood ho hops
    go_wp2_with fail
    refine (new_u w1 0 0 30 (Int.le_refl _) zi64 (Int.le_refl _) zi64 (by omega)).mono ?_
    rintro e w2 ⟨b, rfl, hB2, hbb, hb2⟩
    have hbl := hB2.lt
    go_wp2_with fail
    refine (alive_ w2).mono ?_
    rintro e w3 ⟨rfl, hb3⟩
    have hb23 := below_step hb2 hb3 (Nat.le_refl _)
    have hwb : w.heap.size ≤ b := Nat.le_trans hb1.size hbb
    have hRw3 := hRw.keep hb23
    have hBe3 : Be w3 b (fun k => w1.heap.size ≤ k) (stK (newS 0 0 30) 4 (List.replicate 30 0) ops 0) := by rw [stK_0 rfl]; exact hB2.below hb3
    have hB3 : Below w.heap.size w w3 := below_step hb1 hb23 (Nat.le_refl _)
    have hgb : g ≠ b := by omega
    clear hRw hB2 hb2 hb3 hb23
    go_wp2_with fail
    go_loopw [46] (fun iv wr => ∃ k : Nat, k ≤ m ∧ iv = .int .i64 (k : Int) ∧ Be wr b (fun k => w1.heap.size ≤ k) (stK (newS 0 0 30) 4 (List.replicate 30 0) ops k) ∧ Rw wr w.heap.size (.slice (some ⟨g, 0, none⟩) m d) m L ∧ Below w.heap.size w wr) (fun iv _ => m - (intOf iv).toNat)
    case atStart => exact ⟨0, Nat.zero_le _, rfl, hBe3, hRw3, hB3⟩
    case round =>
      obtain ⟨k, hk, rfl, hBe, hR, hb⟩ := hrel
      clear hBe3 hRw3 hB3
      by_cases hlt : k < m
      · have hil : (k : Int) < (m : Int) := by omega
        have hi0 : (0 : Int) ≤ (k : Int) := by omega
        have hrf := Rw.rfb hR (b := b) hwb (fun a ha => by injection ha with ha; subst ha; exact hgb)
        obtain ⟨bb, o, X, p, q, x, e, hx, hc, hd⟩ := hrf.at_ hlt
        injection e with e
        injection e with e1 e2
        subst e1 e2
        rw [hLL] at hx
        obtain ⟨hE, hS⟩ := run_all (s0 := newS 0 0 30) (v0 := List.replicate 30 0) hst rfl rfl rfl (by decide) (by decide) (by simp) (.inl ⟨rfl, rfl⟩) hx
        obtain ⟨c0, c1, c2, c3, c4, c5, c6, c7⟩ := hc.all
        simp only [Nat.zero_add] at c0 c1 c2 c3 c4 c5 c6 c7
        obtain ⟨wa, hwa⟩ : ∃ wa, wr.alloc (.cells (ra x (.slice X p q)) 29) = wa := ⟨_, rfl⟩
        have hba : Below wr.heap.size wr wa := by rw [← hwa]; exact (Below.refl _ _).alloc (Nat.le_refl _) _
        have hna : Blk wa wr.heap.size 29 (ra x (.slice X p q)) := by rw [← hwa]; exact Blk.new _ _ _ rfl
        obtain ⟨q0, q1, q2, q3, q4, q5, q6, q7⟩ := k8 hna
        have hT := take_ wa b (fun k => w1.heap.size ≤ k) _ (k : Int) x X p q (hBe.below hba) (fun j hj => by have := hBe.lt; have := hba.size; omega) (by unfold I64; omega) (hd.below hba)
        rw [show hA.sn = 4 from rfl] at hE hS
        rw [hE, hS] at hT
        clear hx hc hd hBe hrf hE hS
        go_wp2_with fail
        refine hT.mono ?_
        rintro e w5 ⟨rfl, hBe5, hg5⟩
        have hR5 := (hR.keep hba).grown hg5 hwb (fun j hj => by have hj2 : some g = some j := hj; injection hj2 with hj2; omega)
        have hb5 : Below w.heap.size w w5 := (below_step hb hba (Nat.le_refl _)).grown hg5 (Nat.le_trans hb.size hba.size) (fun j hj => by injection hj with hj; omega)
        clear hT hR hg5
        go_wp2
        go_roundw
        case rel => exact ⟨k + 1, by omega, by go_num, hBe5, hR5, hb5⟩
        case measure => simp [intOf]; omega
      · have hin : (m : Int) ≤ (k : Int) := by omega
        have hF : stK (newS 0 0 30) 4 (List.replicate 30 0) ops k = agF ops := stK_end (by have := Hml.out; omega)
        rw [hF] at hBe
        obtain ⟨wo, rfl⟩ : ∃ wo : World, wo = wr := ⟨_, rfl⟩
        clear hF
        obtain ⟨V, hV⟩ : ∃ V, (agF ops).vol = V := ⟨_, rfl⟩
        have hbo := hBe.lt
        have hrd : Calls Try.prog 15 #[.pointer (some ⟨b, 0, none⟩), .int .i64 0, .int .i64 30] wo (fun e w' => AnsN wo w' e 0 V) := by rw [← hV]; exact bread_ wo b _ (agF ops) hBe
        have HV := Lib.hid hV
        clear hV
        go_wp2_with fail
        refine hrd.mono ?_
        rintro e w5 ⟨A5, m5, c5, rfl, hG5, hb5⟩
        have hBe5 := hBe.below hb5
        have hR5 := hR.keep hb5
        have hB5 := below_step hb hb5 (Nat.le_refl _)
        obtain ⟨pp, L', rfl, hp1, hLL'⟩ := bld_cons hLL
        have hm5 : m5 ≤ 9223372036854775807 := by have := hG5.bounds; omega
        clear hrd hb5 hBe hR hb
        obtain ⟨hRW, st3, sf3⟩ := rw_base hR5 z hz
        have hgw := grown_setCell w5 ⟨g, 3, none⟩ (.int .i64 z)
        have hBW := hBe5.grown hgw hgb (by simp only; omega)
        have hGW := gotn_grown hG5 hgw (by have := hBe5.lt; simp only; omega)
        have hbW : Below w.heap.size w (w5.setCell ⟨g, 3, none⟩ (.int .i64 z)) := hB5.setCell hgl _
        obtain ⟨w6, hw6⟩ : ∃ w6, w5.setCell ⟨g, 3, none⟩ (.int .i64 z) = w6 := ⟨_, rfl⟩
        rw [hw6] at hRW hBW hGW hbW
        have hmp : (0 : Int) < (m : Int) := by have := Hml.out; omega
        clear hLL hLL' hR5 hBe5 hG5 hB5 hgw
        by_cases hz0 : z < 0
        · obtain ⟨hRV, st4, sf4⟩ := rw_base hRW 0 zi64
          have hgw := grown_setCell w6 ⟨g, 3, none⟩ (.int .i64 0)
          have hBV := hBW.grown hgw hgb (by simp only; omega)
          have hGV := gotn_grown hGW hgw (by have := hBW.lt; simp only; omega)
          have hbV : Below w.heap.size w (w6.setCell ⟨g, 3, none⟩ (.int .i64 0)) := hbW.setCell hgl _
          obtain ⟨w7, hw7⟩ : ∃ w7, w6.setCell ⟨g, 3, none⟩ (.int .i64 0) = w7 := ⟨_, rfl⟩
          rw [hw7] at hRV hBV hGV hbV
          clear hRW hBW hGW hbW hgw
          have hRW : Rw w7 w.heap.size (.slice (some ⟨g, 0, none⟩) m d) m (({ pp.1 with ba := 0 }, pp.2) :: L') := hRV
          have hBW := hBV
          have hGW := hGV
          have hbW := hbV
          clear hRV hBV hGV hbV
          have hmV : ∀ q, (({ pp.1 with ba := 0 }, pp.2) :: L').map Prod.fst = q → q[0]?.map Rec.sn = some 4 := fun q hq => by subst hq; simp [hp1, Str.bareR, hA]
          obtain ⟨L2, hL2⟩ : ∃ L2, ({ pp.1 with ba := 0 }, pp.2) :: L' = L2 := ⟨_, rfl⟩
          rw [hL2] at hRW hmV
          clear hL2
          go_wp2_with fail
          go_loopw [74] (fun iv wr => ∃ k : Nat, k ≤ m ∧ iv = .int .i64 (k : Int) ∧ Be wr b (fun k => w1.heap.size ≤ k) (agF ops) ∧ Rw wr w.heap.size (.slice (some ⟨g, 0, none⟩) m d) m L2 ∧ GotN wr wo.heap.size A5 m5 c5 V ∧ Below w.heap.size w wr) (fun iv _ => m - (intOf iv).toNat)
          case atStart => exact ⟨0, Nat.zero_le _, rfl, hBW, hRW, hGW, hbW⟩
          case round =>
            obtain ⟨k2, hk2, rfl, hBe, hR, hG, hb⟩ := hrel
            clear hBW hRW hGW hbW
            by_cases hlt2 : k2 < m
            · have hil : (k2 : Int) < (m : Int) := by omega
              have hi0 : (0 : Int) ≤ (k2 : Int) := by omega
              have hrf := Rw.rfb hR (b := b) hwb (fun a ha => by injection ha with ha; subst ha; exact hgb)
              obtain ⟨bb, o, X, p, q, x, e, hx, hc, hd⟩ := hrf.at_ hlt2
              injection e with e
              injection e with e1 e2
              subst e1 e2
              have hE : takE (agF ops) (k2 : Int) x ≠ 0 := by
                by_cases h0 : k2 = 0
                · subst h0
                  have := hmV _ rfl
                  rw [hx] at this
                  simp at this
                  exact take_there rfl this
                · exact take_idle rfl (by omega)
              obtain ⟨c0, c1, c2, c3, c4, c5, c6, c7⟩ := hc.all
              simp only [Nat.zero_add] at c0 c1 c2 c3 c4 c5 c6 c7
              obtain ⟨wa, hwa⟩ : ∃ wa, wr.alloc (.cells (ra x (.slice X p q)) 29) = wa := ⟨_, rfl⟩
              have hba : Below wr.heap.size wr wa := by rw [← hwa]; exact (Below.refl _ _).alloc (Nat.le_refl _) _
              have hna : Blk wa wr.heap.size 29 (ra x (.slice X p q)) := by rw [← hwa]; exact Blk.new _ _ _ rfl
              obtain ⟨q0, q1, q2, q3, q4, q5, q6, q7⟩ := k8 hna
              have hT := take_ wa b (fun k => w1.heap.size ≤ k) _ (k2 : Int) x X p q (hBe.below hba) (fun j hj => by have := hBe.lt; have := hba.size; omega) (by unfold I64; omega) (hd.below hba)
              rw [takS_no hE] at hT
              obtain ⟨er, her⟩ : ∃ er, takE (agF ops) (k2 : Int) x = er := ⟨_, rfl⟩
              rw [her] at hE hT
              have hEb : (er == 0) = false := by simpa using hE
              clear hx hc hd hBe hrf her hE
              go_wp2_with fail
              refine hT.mono ?_
              rintro e w8 ⟨rfl, hBe8, hg8⟩
              have hR8 := (hR.keep hba).grown hg8 hwb (fun j hj => by have hj2 : some g = some j := hj; injection hj2 with hj2; omega)
              have hG8 := gotn_grown (hG.keep hba) hg8 hbo
              have hb8 : Below w.heap.size w w8 := (below_step hb hba (Nat.le_refl _)).grown hg8 (Nat.le_trans hb.size hba.size) (fun j hj => by injection hj with hj; omega)
              clear hT hR hG hg8
              go_wp2
              go_roundw
              case rel => exact ⟨k2 + 1, by omega, by go_num, hBe8, hR8, hG8, hb8⟩
              case measure => simp [intOf]; omega
            · have hin2 : (m : Int) ≤ (k2 : Int) := by omega
              have hrd : Calls Try.prog 15 #[.pointer (some ⟨b, 0, none⟩), .int .i64 0, .int .i64 30] wr (fun e w' => AnsN wr w' e 0 V) := by rw [← HV.out]; exact bread_ wr b _ (agF ops) hBe
              clear hR hmV
              go_wp2_with fail
              refine hrd.mono ?_
              rintro e w9 ⟨A9, m9, c9, rfl, hG9, hb9⟩
              have hBe9 := hBe.below hb9
              have hG5' := hG.keep hb9
              have hB9 := below_step hb hb9 (Nat.le_refl _)
              have hco : Calls Try.prog 18 #[.pointer (some ⟨b, 0, none⟩)] w9 (fun e w' => e = .returned (.tuple #[.int .i64 0, .int .i64 0]) ∧ ∃ k, w' = w9.drewN k) := coming_ w9 b _ (agF ops) hBe9
              clear hrd hb9 hBe hG
              go_wp2_with fail
              refine hco.mono ?_
              rintro e w10 ⟨rfl, k10, rfl⟩
              have hwd := fun j => words_same2 (w9.drewN j) A5 A9 m5 m9 c5 c9 V (hG5'.ns.drewN j) (hG9.ns.drewN j) hm5
              go_wp2_with fail
              refine (hwd k10).mono ?_
              rintro e w11 ⟨rfl, k11, rfl⟩
              have hsn : Calls Try.prog 16 #[.pointer (some ⟨b, 0, none⟩)] (w9.drewN (k10 + k11)) (fun e w' => e = .returned (.int .i64 4) ∧ w9.drewN (k10 + k11) = w') := snap_ _ b _ (agF ops) (hBe9.drewN (k10 + k11))
              have hBf := below_drewN hB9 (k10 + k11)
              clear hwd hco hG9 hG5' hBe9
              go_wp2_with fail
              refine hsn.mono ?_
              rintro e w12 ⟨rfl, rfl⟩
              go_wp2
              go_ret
              exact ⟨rfl, hBf⟩
        · have hz1 : 0 ≤ z := by omega
          have hmV : ∀ q, (({ pp.1 with ba := z }, pp.2) :: L').map Prod.fst = q → q[0]?.map Rec.sn = some 4 := fun q hq => by subst hq; simp [hp1, Str.bareR, hA]
          obtain ⟨L2, hL2⟩ : ∃ L2, ({ pp.1 with ba := z }, pp.2) :: L' = L2 := ⟨_, rfl⟩
          rw [hL2] at hRW hmV
          clear hL2
          go_wp2_with fail
          go_loopw [74] (fun iv wr => ∃ k : Nat, k ≤ m ∧ iv = .int .i64 (k : Int) ∧ Be wr b (fun k => w1.heap.size ≤ k) (agF ops) ∧ Rw wr w.heap.size (.slice (some ⟨g, 0, none⟩) m d) m L2 ∧ GotN wr wo.heap.size A5 m5 c5 V ∧ Below w.heap.size w wr) (fun iv _ => m - (intOf iv).toNat)
          case atStart => exact ⟨0, Nat.zero_le _, rfl, hBW, hRW, hGW, hbW⟩
          case round =>
            obtain ⟨k2, hk2, rfl, hBe, hR, hG, hb⟩ := hrel
            clear hBW hRW hGW hbW
            by_cases hlt2 : k2 < m
            · have hil : (k2 : Int) < (m : Int) := by omega
              have hi0 : (0 : Int) ≤ (k2 : Int) := by omega
              have hrf := Rw.rfb hR (b := b) hwb (fun a ha => by injection ha with ha; subst ha; exact hgb)
              obtain ⟨bb, o, X, p, q, x, e, hx, hc, hd⟩ := hrf.at_ hlt2
              injection e with e
              injection e with e1 e2
              subst e1 e2
              have hE : takE (agF ops) (k2 : Int) x ≠ 0 := by
                by_cases h0 : k2 = 0
                · subst h0
                  have := hmV _ rfl
                  rw [hx] at this
                  simp at this
                  exact take_there rfl this
                · exact take_idle rfl (by omega)
              obtain ⟨c0, c1, c2, c3, c4, c5, c6, c7⟩ := hc.all
              simp only [Nat.zero_add] at c0 c1 c2 c3 c4 c5 c6 c7
              obtain ⟨wa, hwa⟩ : ∃ wa, wr.alloc (.cells (ra x (.slice X p q)) 29) = wa := ⟨_, rfl⟩
              have hba : Below wr.heap.size wr wa := by rw [← hwa]; exact (Below.refl _ _).alloc (Nat.le_refl _) _
              have hna : Blk wa wr.heap.size 29 (ra x (.slice X p q)) := by rw [← hwa]; exact Blk.new _ _ _ rfl
              obtain ⟨q0, q1, q2, q3, q4, q5, q6, q7⟩ := k8 hna
              have hT := take_ wa b (fun k => w1.heap.size ≤ k) _ (k2 : Int) x X p q (hBe.below hba) (fun j hj => by have := hBe.lt; have := hba.size; omega) (by unfold I64; omega) (hd.below hba)
              rw [takS_no hE] at hT
              obtain ⟨er, her⟩ : ∃ er, takE (agF ops) (k2 : Int) x = er := ⟨_, rfl⟩
              rw [her] at hE hT
              have hEb : (er == 0) = false := by simpa using hE
              clear hx hc hd hBe hrf her hE
              go_wp2_with fail
              refine hT.mono ?_
              rintro e w8 ⟨rfl, hBe8, hg8⟩
              have hR8 := (hR.keep hba).grown hg8 hwb (fun j hj => by have hj2 : some g = some j := hj; injection hj2 with hj2; omega)
              have hG8 := gotn_grown (hG.keep hba) hg8 hbo
              have hb8 : Below w.heap.size w w8 := (below_step hb hba (Nat.le_refl _)).grown hg8 (Nat.le_trans hb.size hba.size) (fun j hj => by injection hj with hj; omega)
              clear hT hR hG hg8
              go_wp2
              go_roundw
              case rel => exact ⟨k2 + 1, by omega, by go_num, hBe8, hR8, hG8, hb8⟩
              case measure => simp [intOf]; omega
            · have hin2 : (m : Int) ≤ (k2 : Int) := by omega
              have hrd : Calls Try.prog 15 #[.pointer (some ⟨b, 0, none⟩), .int .i64 0, .int .i64 30] wr (fun e w' => AnsN wr w' e 0 V) := by rw [← HV.out]; exact bread_ wr b _ (agF ops) hBe
              clear hR hmV
              go_wp2_with fail
              refine hrd.mono ?_
              rintro e w9 ⟨A9, m9, c9, rfl, hG9, hb9⟩
              have hBe9 := hBe.below hb9
              have hG5' := hG.keep hb9
              have hB9 := below_step hb hb9 (Nat.le_refl _)
              have hco : Calls Try.prog 18 #[.pointer (some ⟨b, 0, none⟩)] w9 (fun e w' => e = .returned (.tuple #[.int .i64 0, .int .i64 0]) ∧ ∃ k, w' = w9.drewN k) := coming_ w9 b _ (agF ops) hBe9
              clear hrd hb9 hBe hG
              go_wp2_with fail
              refine hco.mono ?_
              rintro e w10 ⟨rfl, k10, rfl⟩
              have hwd := fun j => words_same2 (w9.drewN j) A5 A9 m5 m9 c5 c9 V (hG5'.ns.drewN j) (hG9.ns.drewN j) hm5
              go_wp2_with fail
              refine (hwd k10).mono ?_
              rintro e w11 ⟨rfl, k11, rfl⟩
              have hsn : Calls Try.prog 16 #[.pointer (some ⟨b, 0, none⟩)] (w9.drewN (k10 + k11)) (fun e w' => e = .returned (.int .i64 4) ∧ w9.drewN (k10 + k11) = w') := snap_ _ b _ (agF ops) (hBe9.drewN (k10 + k11))
              have hBf := below_drewN hB9 (k10 + k11)
              clear hwd hco hG9 hG5' hBe9
              go_wp2_with fail
              refine hsn.mono ?_
              rintro e w12 ⟨rfl, rfl⟩
              go_wp2
              go_ret
              exact ⟨rfl, hBf⟩
end
end Lan
open Lan Str

set_option maxRecDepth 100000 in
theorem landAgain_lifted (os : Os) (started : os.Started) (H : Type) (enc : TypeId × Value → H) (F : Stop.Interp) :
    ReturnsInHanded {} Try.checked os 7 .any ((Rows.OpenSpec.upto Rows.landAgainSpec).pre6 enc Try.prog Try.f7 Rows.landAgainUptoRow.domain false) (((Rows.OpenSpec.upto Rows.landAgainSpec).at F).post enc Try.prog Try.f7 false true false false) := by
  refine law_upto (C := Try.checked) (tb := 4) own_ started (by kernel_rfl) Try.func7
    (OpenSpec.witness (enc := enc) (C := Try.checked) (s := Rows.OpenSpec.upto Rows.landAgainSpec) (k := Rows.uptoSmall) rfl false ⟨#[], #[.slice none 0 0, .int .i64 0], []⟩ 8 (by kernel_rfl) (by kernel_rfl) (by kernel_rfl) (x := ([.nil, .lit (.int .i64 0)], [], [])) (by kernel_rfl) rfl (by kernel_rfl))
    rfl rfl Try.underlying4 laidOut_ (by kernel_rfl) (fun ds h => by match ds, h with | [_, _], _ => rfl) ?_
  intro W base args ds p hval0 hA0 _ hsz0 hbulk
  have hval : ∀ (j : Nat) t v, Try.f7.params[j]? = some t → args[j]? = some v → Value.okWide Try.prog W .any base t v := hval0
  have hA : DataW.TrodAll enc Try.prog W 0 (fun _ => true) true Try.f7.params.toList args.toList ds p := hA0
  have hsz : (DataW.weightsEach Try.prog Try.f7.params.toList ds).all (· ≤ reachBytes) = true := hsz0
  clear hval0 hA0 hsz0
  rw [Try.params7] at hA hval hsz
  obtain ⟨v0, v1, d0, d1, p0, p1, rfl, rfl, rfl, h0, h1⟩ := trodAll_two hA
  have hB : Rows.uptoBulk d0 + Rows.uptoBulk d1 ≤ 1048576 := by simp only [Rows.uptoBulkAll] at hbulk; omega
  obtain ⟨A0, n0, c0, xs0, rfl, r0, b0⟩ := arg_slice ops_ops Try.underlying22 (hval 0 _ v0 rfl rfl) h0 (weight_at hsz (j := 0) rfl rfl)
  obtain ⟨z1, rfl, hz1⟩ := arg_int _ _ Try.underlying3 (hval 1 _ v1 rfl rfl) h1 wf_i64
  obtain ⟨q1, q2, q3⟩ := ops_os r0
  have hb := bulks_len opShp op_bulk xs0
  have hl := q1.len
  rw [List.length_map] at hl
  have hb0 : bulks opShp xs0 + 1 ≤ Rows.uptoBulk d0 := b0
  exact again_walk W A0 n0 c0 _ q1 (by omega) z1 hz1

/-- LandAgain, where what it reads is of bulk at most 1048576: the statement as it was given. -/
theorem landAgain_holds : Rows.LandAgainUptoSaid :=
  OpenClaim.holds_of_cond 7 Try.f7 rfl rfl rfl rfl rfl rfl rfl ⟨rfl, rfl, rfl, rfl, rfl⟩ rfl rfl rfl rfl rfl (by kernel_rfl) Try.func7 (by kernel_rfl)
    (of_decide_eq_true (by kernel_rfl)) (by unfold Func.isWrapper; first | (rw [if_pos (by decide +kernel)]; kernel_rfl) | (rw [if_neg (by decide +kernel)]; exact ⟨rfl, rfl⟩))
    (fun os started H enc _ F => landAgain_lifted os started H enc F)
end Go.Proofs.Ytganoklclnbjkaa
