/- LandWhole: however a stream's records come, doubled and mixed up, and whenever the power goes off, what is there is what was there, or the whole stream's volume made of it: for all lists of ops and ways of bulk at most 1048576. -/
import Derived.Test.YtganoklclnbjkaaLanB2
set_option linter.all false
namespace Go.Proofs.Ytganoklclnbjkaa
open Go.ChangeShapes Go.WideShapes Go.ChangeAt Go.RowKit
namespace Lan
open Str (Rec mayB FitR Rdt Rcl RC ra rv RecV recShp toRec rec_arr ops_rec k8 rc_of own_ laidOut_ bldL recOp tailR)
open Blo (I64 GotN AnsN apL)
def hW1 : Rec := ⟨1, 0, 1, 0, 0, 0, 30, []⟩
def hW2 : Rec := ⟨1, 0, 2, 1, 0, 0, 30, []⟩
theorem hW1_fit : FitR hW1 := ⟨i64s (by decide) (by decide), i64s (by decide) (by decide), i64s (by decide) (by decide), i64s (by decide) (by decide), i64s (by decide) (by decide), i64s (by decide) (by decide), i64s (by decide) (by decide)⟩
theorem hW2_fit : FitR hW2 := ⟨i64s (by decide) (by decide), i64s (by decide) (by decide), i64s (by decide) (by decide), i64s (by decide) (by decide), i64s (by decide) (by decide), i64s (by decide) (by decide), i64s (by decide) (by decide)⟩
theorem hW1_may : mayB hW1 = true := by decide +kernel
theorem hW2_may : mayB hW2 = true := by decide +kernel
abbrev WayV : Type := UInt8 × UInt8 × Unit
def wayShp : Shp WayV := Shp.agg (Shp.pair Shp.u8 (Shp.pair Shp.u8 Shp.unit))
theorem way_is {w : World} {cs : List Value} {a : WayV} (h : wayShp.R w cs a) : cs = [.int .u8 (a.1.toNat : Int), .int .u8 (a.2.1.toNat : Int)] := by
  obtain ⟨c1, r1, rfl, hl1, h1, c2, r2, rfl, hl2, h2, h3⟩ := h
  have h1 : c1 = [.int .u8 (a.1.toNat : Int)] := h1
  have h2 : c2 = [.int .u8 (a.2.1.toNat : Int)] := h2
  have h3 : r2 = [] := h3
  subst h1 h2 h3
  rfl
/-- The way k, in a later world. -/
theorem ways_later {W w : World} {S : Option Addr} {n c : Nat} {l : List WayV} (h : (Shp.slice wayShp 2).R W [.slice S n c] l) (hb : Below W.heap.size W w) {k : Nat} (hk : k < n) :
    ∃ b o, ∃ at_ th : Nat, S = some ⟨b, o, none⟩ ∧ at_ < 256 ∧ th < 256 ∧ w.cell? ⟨b, o + k * 2, none⟩ = some (.int .u8 (at_ : Int)) ∧ w.cell? ⟨b, o + k * 2 + 1, none⟩ = some (.int .u8 (th : Int)) := by
  obtain ⟨A', c', e, h1, h2, h3, h4, h5⟩ := h
  simp only [List.cons.injEq, Value.slice.injEq, and_true] at e
  obtain ⟨rfl, rfl, rfl⟩ := e
  obtain ⟨b, o, vs, rfl, hl, hc, hr⟩ := h5 k hk
  obtain rfl := way_is hr
  have e2 : wayShp.n = 2 := rfl
  rw [e2] at hc
  have g : ∀ {p : Addr} {u : Value}, W.cell? p = some u → w.cell? p = some u := fun h => (hb.cell (cell_lt h)).trans h
  exact ⟨b, o, l[k].1.toNat, l[k].2.1.toNat, rfl, l[k].1.toNat_lt, l[k].2.1.toNat_lt, by simpa using g (hc 0 _ rfl), g (hc 1 _ rfl)⟩
theorem ways_len {w : World} {A : Option Addr} {n c : Nat} {l : List WayV} (h : (Shp.slice wayShp 2).R w [.slice A n c] l) : n ≤ 9223372036854775807 := by
  obtain ⟨A', c', e, h1, h2, h3, h4, h5⟩ := h
  simp only [List.cons.injEq, Value.slice.injEq, and_true] at e
  obtain ⟨rfl, rfl, rfl⟩ := e
  omega
theorem ops_way : Opens Try.prog 39 wayShp :=
  opens_struct Try.underlying39 (by kernel_rfl) (opensF_cons (opens_u8 Try.underlying5 (by kernel_rfl)) rfl (opensF_cons (opens_u8 Try.underlying5 (by kernel_rfl)) rfl (opensF_nil _)))
theorem ops_ways : Opens Try.prog 23 (Shp.slice wayShp 2) := opens_slice 2 Try.underlying23 (by kernel_rfl) (by kernel_rfl) (by decide) ops_way
/-- The berth, while the second stream comes. -/
def WhS (w : World) (b : Nat) (was : List Nat) (ops : List BOp) : Prop := ∃ s, Be w b (fun _ => True) s ∧ Inv 30 0 0 2 was ops 1 s
theorem words_same3 (w : World) (A B : Option Addr) (n m c d : Nat) (a : List Nat) (ha : Ns w A n a) (hb : Ns w B m a) (hn : n ≤ 9223372036854775807) :
    Calls Try.prog 17 #[.slice A n c, .slice B m d] w fun e w' => e = .returned (.bool true) ∧ ∃ k, w' = w.drewN k := by
  have := Blo.words_ w A B n m c d a a ha hb hn
  rwa [decide_eq_true rfl] at this
section
variable (w : World)
set_option maxRecDepth 100000 in
set_option maxHeartbeats 32000000 in
theorem whole_walk (S1 : Option Addr) (n1 c1 : Nat) (ops1 : List BOp) (ho1 : Blo.Opl w S1 n1 ops1) (hn1 : n1 ≤ 2000000) (S2 : Option Addr) (n2 c2 : Nat) (ops2 : List BOp) (ho2 : Blo.Opl w S2 n2 ops2) (hn2 : n2 ≤ 2000000) (S3 : Option Addr) (n3 c3 : Nat) (ways : List WayV) (hw3 : (Shp.slice wayShp 2).R w [.slice S3 n3 c3] ways) :
    Calls Try.prog 3 #[.slice S1 n1 c1, .slice S2 n2 c2, .slice S3 n3 c3] w fun e w' => e = .returned (.bool true) ∧ Below w.heap.size w w' := by
  have Hn3 := Lib.hid (ways_len hw3)
  go_enter Try.func3, Try.ntmps3
  go_wp2_with fail
  refine (rbuild_ w hW1 hW1_fit rfl rfl hW1_may S1 n1 c1 ops1 ho1 hn1).mono ?_
  rintro e w1 (⟨er, hne, rfl, hb1⟩ | ⟨B1, m1, d1, L1, rfl, hRw1, hLL1, hgood1, hb1⟩)
  · have hne2 : (er != 0) = true := by simpa using hne
    clear hne
    go_wp2_with fail
    refine (rbuild_ w1 hW2 hW2_fit rfl rfl hW2_may S2 n2 c2 ops2 (ho2.below hb1) hn2).mono ?_
    rintro e w2 (⟨er2, hne3, rfl, hb2⟩ | ⟨B2, m2, d2, L2, rfl, hRw2, hLL2, hgood2, hb2⟩)
    · clear hne3
      go_wp2_with fail
      refine (new_ w2 0 0 30 (Int.le_refl _) zi64 (Int.le_refl _) zi64 (by omega)).mono ?_
      rintro e w3 ⟨b, rfl, hB3, hbb, hb3⟩
      go_wp2_with fail
      refine (alive_ w3).mono ?_
      rintro e w4 ⟨rfl, hb4⟩
      have hB4 := below_step (below_step (below_step hb1 hb2 (Nat.le_refl _)) hb3 (Nat.le_refl _)) hb4 (Nat.le_refl _)
      go_wp2
      go_ret
      exact ⟨rfl, hB4⟩
    · clear hRw2 hLL2 hgood2
      go_wp2_with fail
      refine (new_ w2 0 0 30 (Int.le_refl _) zi64 (Int.le_refl _) zi64 (by omega)).mono ?_
      rintro e w3 ⟨b, rfl, hB3, hbb, hb3⟩
      go_wp2_with fail
      refine (alive_ w3).mono ?_
      rintro e w4 ⟨rfl, hb4⟩
      have hB4 := below_step (below_step (below_step hb1 hb2 (Nat.le_refl _)) hb3 (Nat.le_refl _)) hb4 (Nat.le_refl _)
      go_wp2
      go_ret
      exact ⟨rfl, hB4⟩
  · go_wp2_with fail
    refine (rbuild_ w1 hW2 hW2_fit rfl rfl hW2_may S2 n2 c2 ops2 (ho2.below hb1) hn2).mono ?_
    rintro e w2 (⟨er2, hne3, rfl, hb2⟩ | ⟨B2, m2, d2, L2, rfl, hRw2, hLL2, hgood2, hb2⟩)
    · have hne4 : (er2 != 0) = true := by simpa using hne3
      clear hne3 hRw1 hLL1 hgood1
      go_wp2_with fail
      refine (new_ w2 0 0 30 (Int.le_refl _) zi64 (Int.le_refl _) zi64 (by omega)).mono ?_
      rintro e w3 ⟨b, rfl, hB3, hbb, hb3⟩
      go_wp2_with fail
      refine (alive_ w3).mono ?_
      rintro e w4 ⟨rfl, hb4⟩
      have hB4 := below_step (below_step (below_step hb1 hb2 (Nat.le_refl _)) hb3 (Nat.le_refl _)) hb4 (Nat.le_refl _)
      go_wp2
      go_ret
      exact ⟨rfl, hB4⟩
    · have hst1 : Stm 30 hW1 ops1 := stm_of (by omega) rfl rfl rfl hgood1
      have hst2 : Stm 30 hW2 ops2 := stm_of (by omega) rfl rfl rfl hgood2
      have hm1L : m1 = ops1.length + 2 := by rw [hRw1.len, ← bld_len hW1 ops1, ← hLL1, List.length_map]
      have hm2L : m2 = ops2.length + 2 := by rw [hRw2.len, ← bld_len hW2 ops2, ← hLL2, List.length_map]
      have hops1 := ho1.len
      have hops2 := ho2.len
      obtain ⟨g1, rfl, hg1l, hg1h⟩ := rw_block hRw1 (by omega)
      obtain ⟨g2, rfl, hg2l, hg2h⟩ := rw_block hRw2 (by omega)
      have hm19 : m1 ≤ 9223372036854775807 := by omega
      have hm29 : 2 ≤ m2 ∧ m2 ≤ 2000002 := by omega
      have hml1 := Lib.hid hm1L
      have hml2 := Lib.hid hm2L
      have hws1 := hb1.size
      have hws2 := hb2.size
      have hRw1' := hRw1.keep hb2
      clear hm1L hm2L hgood1 hgood2 hops1 hops2 hRw1
      go_wp2_with fail
      refine (new_ w2 0 0 30 (Int.le_refl _) zi64 (Int.le_refl _) zi64 (by omega)).mono ?_
      rintro e w3 ⟨b, rfl, hB3, hbb, hb3⟩
      have hbl := hB3.lt
      go_wp2_with fail
      refine (alive_ w3).mono ?_
      rintro e w4 ⟨rfl, hb4⟩
      have hb34 := below_step hb3 hb4 (Nat.le_refl _)
      have hR1 := hRw1'.keep hb34
      have hR2 := hRw2.keep hb34
      have hBe4 : Be w4 b (fun _ => True) (stK (newS 0 0 30) 1 (List.replicate 30 0) ops1 0) := by rw [stK_0 rfl]; exact hB3.below hb4
      have hB4 : Below w.heap.size w w4 := below_step (below_step hb1 hb2 (Nat.le_refl _)) hb34 (Nat.le_refl _)
      have hg1b : g1 ≠ b := by omega
      have hg2b : g2 ≠ b := by omega
      have hwb : w.heap.size ≤ b := by omega
      have hwb1 : w1.heap.size ≤ b := by omega
      clear hRw1' hRw2 hB3 hb3 hb4 hb34 hb2
      go_wp2_with fail
      go_loopw [62] (fun iv wr => ∃ k : Nat, k ≤ m1 ∧ iv = .int .i64 (k : Int) ∧ Be wr b (fun _ => True) (stK (newS 0 0 30) 1 (List.replicate 30 0) ops1 k) ∧ Rw wr w.heap.size (.slice (some ⟨g1, 0, none⟩) m1 d1) m1 L1 ∧ Rw wr w1.heap.size (.slice (some ⟨g2, 0, none⟩) m2 d2) m2 L2 ∧ Below w.heap.size w wr) (fun iv _ => m1 - (intOf iv).toNat)
      case atStart => exact ⟨0, Nat.zero_le _, rfl, hBe4, hR1, hR2, hB4⟩
      case round =>
        obtain ⟨k, hk, rfl, hBe, hR, hQ, hb⟩ := hrel
        clear hBe4 hR1 hR2 hB4
        by_cases hlt : k < m1
        · have hil : (k : Int) < (m1 : Int) := by omega
          have hi0 : (0 : Int) ≤ (k : Int) := by omega
          have hrf := Rw.rfb hR (b := b) hwb (fun a ha => by injection ha with ha; subst ha; exact hg1b)
          obtain ⟨bb, o, X, p, q, x, e, hx, hc, hd⟩ := hrf.at_ hlt
          injection e with e
          injection e with e1 e2
          subst e1 e2
          rw [hLL1] at hx
          obtain ⟨hE, hS⟩ := run_all (s0 := newS 0 0 30) (v0 := List.replicate 30 0) hst1 rfl rfl rfl (by decide) (by decide) (by simp) (.inl ⟨rfl, rfl⟩) hx
          obtain ⟨c0, c1, c2, c3, c4, c5, c6, c7⟩ := hc.all
          simp only [Nat.zero_add] at c0 c1 c2 c3 c4 c5 c6 c7
          obtain ⟨wa, hwa⟩ : ∃ wa, wr.alloc (.cells (ra x (.slice X p q)) 29) = wa := ⟨_, rfl⟩
          have hba : Below wr.heap.size wr wa := by rw [← hwa]; exact (Below.refl _ _).alloc (Nat.le_refl _) _
          have hna : Blk wa wr.heap.size 29 (ra x (.slice X p q)) := by rw [← hwa]; exact Blk.new _ _ _ rfl
          obtain ⟨q0, q1, q2, q3, q4, q5, q6, q7⟩ := k8 hna
          have hT := take_ wa b (fun _ => True) _ (k : Int) x X p q (hBe.below hba) (fun _ _ => trivial) (by unfold I64; omega) (hd.below hba)
          rw [show hW1.sn = 1 from rfl] at hE hS
          rw [hE, hS] at hT
          clear hx hc hd hBe hrf hE hS hw3
          go_wp2_with fail
          refine hT.mono ?_
          rintro e w5 ⟨rfl, hBe5, hg5⟩
          have hR5 := (hR.keep hba).grown hg5 hwb (fun j hj => by have hj2 : some g1 = some j := hj; injection hj2 with hj2; omega)
          have hQ5 := (hQ.keep hba).grown hg5 hwb1 (fun j hj => by have hj2 : some g2 = some j := hj; injection hj2 with hj2; omega)
          have hb5 : Below w.heap.size w w5 := (below_step hb hba (Nat.le_refl _)).grown hg5 (Nat.le_trans hb.size hba.size) (fun j hj => by injection hj with hj; omega)
          clear hT hR hQ hg5
          go_wp2
          go_roundw
          case rel => exact ⟨k + 1, by omega, by go_num, hBe5, hR5, hQ5, hb5⟩
          case measure => simp [intOf]; omega
        · have hin : (m1 : Int) ≤ (k : Int) := by omega
          obtain ⟨was, hwas⟩ : ∃ was, apL (List.replicate 30 0) ops1 = was := ⟨_, rfl⟩
          have hF : stK (newS 0 0 30) 1 (List.replicate 30 0) ops1 k = { newS 0 0 30 with num := 1, vol := was, c := a0, y := a0 } := by rw [← hwas]; exact stK_end (by have := hml1.out; omega)
          rw [hF] at hBe
          have hwl : was.length = 30 := hBe.ok.len
          obtain ⟨wo, rfl⟩ : ∃ wo : World, wo = wr := ⟨_, rfl⟩
          have hWS : WhS wo b was ops2 := ⟨_, hBe, ⟨rfl, rfl, rfl⟩, .inl ⟨rfl, rfl, ⟨0, by omega, rfl⟩, ⟨0, by omega, rfl⟩⟩⟩
          have hbo := hBe.lt
          obtain ⟨i0, hi0, hz0, hz1, hz2⟩ := u64_info
          have Hz := Lib.hid hz2
          have Hwl := Lib.hid hwl
          have Hwas := Lib.hid hwas
          clear hz2 hF hBe hR hk hlt hwl hwas
          go_wp2_with (first
            | (at_make
               refine wpList_make_blk _ rfl _ _ 27 rfl 62 i0 _ 1 8 Try.underlying27 hi0 hz0 hz1 Hz.out .i64 .i64 _ _ 30 rfl rfl rfl rfl (by omega) (by omega) ?_
               intro w5 hk5 hb5 hs5)
            | fail)
          have hZ : w5.ownsRow wo.heap.size 62 1 (.slice (some ⟨wo.heap.size, 0, none⟩) 30 30) 30 (nvs (List.replicate 30 0)) := Blo.own_blk hk5 (Nat.le_refl _) (by unfold maxLen; omega) (by rw [Nat.mul_one, Blo.nvs_repl]; exact Blo.made_list 30 _) (by rw [nvs_length]; simp)
          have hB5 := below_step hb hb5 (Nat.le_refl _)
          have hzn : Ns w5 (some ⟨wo.heap.size, 0, none⟩) 30 (List.replicate 30 0) := no_ns hZ (fun z hz => by rw [List.eq_of_mem_replicate hz]; omega)
          refine (Blo.rapply_ w5 (some ⟨wo.heap.size, 0, none⟩) 30 30 (List.replicate 30 0) hzn (by omega) S1 n1 c1 ops1 (ho1.below hB5) (by omega)).mono ?_
          rw [Hwas.out]
          rintro e w6 ⟨A6, p6, q6, rfl, hG6, hb6⟩
          have hB6 := below_step hB5 hb6 (Nat.le_refl _)
          have hp69 : p6 ≤ 9223372036854775807 := by have := hG6.bounds; omega
          clear hZ hzn hk5
          go_wp2_with fail
          refine (Blo.rapply_ w6 A6 p6 q6 was hG6.ns hp69 S2 n2 c2 ops2 (ho2.below hB6) (by omega)).mono ?_
          obtain ⟨will, hwill⟩ : ∃ will, apL was ops2 = will := ⟨_, rfl⟩
          rw [hwill]
          have Hwill := Lib.hid hwill
          clear hwill
          rintro e w7 ⟨A7, p7, q7, rfl, hG7, hb7⟩
          have hB7 := below_step hB6 hb7 (Nat.le_refl _)
          have hb67 := below_step (below_step hb5 hb6 (Nat.le_refl _)) hb7 (Nat.le_refl _)
          have hG6' := hG6.keep hb7
          have hW7 : WhS w7 b was ops2 := by obtain ⟨s, h1, h2⟩ := hWS; exact ⟨s, h1.below hb67, h2⟩
          have hQ7 := hQ.keep hb67
          have hbB6 : b < w5.heap.size := by have := hb5.size; omega
          have hbB7 : b < w6.heap.size := by have := hb6.size; omega
          have hp79 : p7 ≤ 9223372036854775807 := by have := hG7.bounds; omega
          clear hWS hQ hG6 hb5 hb6 hb7 hb67 hs5 ho1 ho2
          go_wp2_with fail
          go_loopw [88] (fun iv wr => ∃ k : Nat, k ≤ n3 ∧ iv = .int .i64 (k : Int) ∧ WhS wr b was ops2 ∧ Rw wr w1.heap.size (.slice (some ⟨g2, 0, none⟩) m2 d2) m2 L2 ∧ GotN wr w5.heap.size A6 p6 q6 was ∧ GotN wr w6.heap.size A7 p7 q7 will ∧ Below w.heap.size w wr) (fun iv _ => n3 - (intOf iv).toNat)
          case atStart => exact ⟨0, Nat.zero_le _, rfl, hW7, hQ7, hG6', hG7, hB7⟩
          case round =>
            obtain ⟨k, hk, rfl, ⟨s, hBe, hInv⟩, hQ, hGw, hGl, hb⟩ := hrel
            clear hW7 hQ7 hG6' hG7 hB7 hB6 hB5
            have hn3m := Hn3.out
            by_cases hlt : k < n3
            · have hil : (k : Int) < (n3 : Int) := by omega
              have hi0' : (0 : Int) ≤ (k : Int) := by omega
              obtain ⟨bs, o, at_, th, rfl, hat, hth, v0, v1⟩ := ways_later hw3 hb hlt
              obtain ⟨wa, hwa⟩ : ∃ wa, wr.alloc (.cells #[.int .u8 (at_ : Int), .int .u8 (th : Int)] 39) = wa := ⟨_, rfl⟩
              have hba : Below wr.heap.size wr wa := by rw [← hwa]; exact (Below.refl _ _).alloc (Nat.le_refl _) _
              have hna : Blk wa wr.heap.size 39 #[.int .u8 (at_ : Int), .int .u8 (th : Int)] := by rw [← hwa]; exact Blk.new _ _ _ rfl
              have x0 := hna.cell (j := 0) (u := .int .u8 (at_ : Int)) rfl
              have x1 := hna.cell (j := 1) (u := .int .u8 (th : Int)) rfl
              have hm0 : ((m2 : Int) == 0) = false := by simp; omega
              obtain ⟨ix, hix⟩ : ∃ ix : Nat, at_ % m2 = ix := ⟨_, rfl⟩
              have hixl : ix < m2 := by rw [← hix]; exact Nat.mod_lt _ (by omega)
              have hixi : (at_ : Int) % (m2 : Int) = (ix : Int) := by rw [← hix]; rfl
              have hrf := Rw.rfb hQ (b := b) hwb1 (fun a ha => by injection ha with ha; subst ha; exact hg2b)
              obtain ⟨bb, o2, X, p, q, x, e, hx, hc, hd⟩ := (hrf.below hba).at_ hixl
              injection e with e
              injection e with e1 e2
              subst e1 e2
              rw [hLL2] at hx
              have hI8 : Inv 30 0 0 2 was ops2 1 (takS s (ix : Int) x) := inv_take (hd := hW2) hst2 (by decide) (by decide) rfl (by decide) Hwl.out hInv hx
              obtain ⟨c0, c1, c2, c3, c4, c5, c6, c7⟩ := hc.all
              simp only [Nat.zero_add] at c0 c1 c2 c3 c4 c5 c6 c7
              have hT := take_ wa b (fun _ => True) s (ix : Int) x X p q (hBe.below hba) (fun _ _ => trivial) (by unfold I64; omega) hd
              have hil2 : (ix : Int) < (m2 : Int) := by omega
              have hix0 : (0 : Int) ≤ (ix : Int) := by omega
              obtain ⟨er8, her8⟩ : ∃ er8, takE s (ix : Int) x = er8 := ⟨_, rfl⟩
              obtain ⟨s8, hs8⟩ : ∃ s8, takS s (ix : Int) x = s8 := ⟨_, rfl⟩
              rw [her8, hs8] at hT
              rw [hs8] at hI8
              have hbb : b < wr.heap.size := hBe.lt
              clear hrf hx hc hd hBe hInv her8 hs8 hw3
              go_wp2_with fail
              refine hT.mono ?_
              rintro e w8 ⟨rfl, hBe8, hg8⟩
              have hQ8 := (hQ.keep hba).grown hg8 hwb1 (fun j hj => by have hj2 : some g2 = some j := hj; injection hj2 with hj2; omega)
              have hGw8 := gotn_grown (hGw.keep hba) hg8 hbB6
              have hGl8 := gotn_grown (hGl.keep hba) hg8 hbB7
              have hb8 : Below w.heap.size w w8 := (below_step hb hba (Nat.le_refl _)).grown hg8 (Nat.le_trans hb.size hba.size) (fun j hj => by injection hj with hj; omega)
              have hn8 := hna.grown hg8 (fun e => by injection e with e; omega)
              have z1 := hn8.cell (j := 1) (u := .int .u8 (th : Int)) rfl
              clear hT hQ hGw hGl hb hba hna hg8 c0 c1 c2 c3 c4 c5 c6 c7 x0 x1 hix hixi hn8
              have hr3 : th % 3 = 0 ∨ th % 3 = 1 ∨ th % 3 = 2 := by omega
              rcases hr3 with h3 | h3 | h3
              · have t1 : ((th : Int) % 3 == 1) = false := by simp; omega
                have t2 : ((th : Int) % 3 == 2) = false := by simp; omega
                clear h3
                obtain ⟨s9, rfl⟩ : ∃ s9, s9 = s8 := ⟨_, rfl⟩
                have hn9 : s9.n = 30 := hI8.1.1
                have hrd := bread_ w8 b _ s9 hBe8
                rw [hn9] at hrd
                have hrd' : Calls Try.prog 15 #[.pointer (some ⟨b, 0, none⟩), .int .i64 0, .int .i64 30] w8 (fun e w' => AnsN w8 w' e 0 s9.vol) := hrd
                clear hrd hn9
                go_wp2_with fail
                refine hrd'.mono ?_
                rintro e w10 ⟨A10, p10, q10, rfl, hG10, hb10⟩
                have hBe10 := hBe8.below hb10
                have hQ10 := hQ8.keep hb10
                have hGw10 := hGw8.keep hb10
                have hGl10 := hGl8.keep hb10
                have hB10 := below_step hb8 hb10 (Nat.le_refl _)
                have hp10 : p10 ≤ 9223372036854775807 := by have := hG10.bounds; omega
                have hW10 : WhS w10 b was ops2 := ⟨_, hBe10, hI8⟩
                clear hrd' hb10 hBe8 hQ8 hGw8 hGl8 hb8
                rcases hI8.2 with hh | hh
                · rw [hh.vol] at hG10
                  have hS := fun j => snap_ (w10.drewN j) b _ s9 (hBe10.drewN j)
                  rw [hh.num] at hS
                  have hWd := fun j => words_same3 (w10.drewN j) A10 A6 p10 p6 q10 q6 was (hG10.ns.drewN j) (hGw10.ns.drewN j) hp10
                  clear hh hG10
                  go_wp2_with fail
                  refine (hS 0).mono ?_
                  rintro e w11 ⟨rfl, rfl⟩
                  go_wp2_with fail
                  refine (hWd 0).mono ?_
                  rintro e w11 ⟨rfl, k11, rfl⟩
                  go_wp2_with fail
                  refine (hS k11).mono ?_
                  rintro e w11 ⟨rfl, rfl⟩
                  go_wp2_with fail
                  refine (hS k11).mono ?_
                  rintro e w11 ⟨rfl, rfl⟩
                  have hWf : WhS (w10.drewN k11) b was ops2 := by obtain ⟨s1, h1, h2⟩ := hW10; exact ⟨s1, h1.drewN k11, h2⟩
                  have hQf := hQ10.keep (below_drewN (Below.refl _ _) k11)
                  have hwf := hGw10.keep (below_drewN (Below.refl _ _) k11)
                  have hlf := hGl10.keep (below_drewN (Below.refl _ _) k11)
                  have hBf := below_drewN hB10 k11
                  clear hS hWd hW10 hQ10 hGw10 hGl10 hB10 hBe10
                  go_wp2
                  go_roundw
                  case rel => exact ⟨k + 1, by omega, by go_num, hWf, hQf, hwf, hlf, hBf⟩
                  case measure => simp [intOf]; omega
                · rw [hh.vol, Hwill.out] at hG10
                  have hS := fun j => snap_ (w10.drewN j) b _ s9 (hBe10.drewN j)
                  rw [hh.num] at hS
                  have hWd := fun j => words_same3 (w10.drewN j) A10 A7 p10 p7 q10 q7 will (hG10.ns.drewN j) (hGl10.ns.drewN j) hp10
                  clear hh hG10
                  go_wp2_with fail
                  refine (hS 0).mono ?_
                  rintro e w11 ⟨rfl, rfl⟩
                  go_wp2_with fail
                  refine (hS 0).mono ?_
                  rintro e w11 ⟨rfl, rfl⟩
                  go_wp2_with fail
                  refine (hWd 0).mono ?_
                  rintro e w11 ⟨rfl, k11, rfl⟩
                  go_wp2_with fail
                  refine (hS k11).mono ?_
                  rintro e w11 ⟨rfl, rfl⟩
                  go_wp2_with fail
                  refine (hS k11).mono ?_
                  rintro e w11 ⟨rfl, rfl⟩
                  have hWf : WhS (w10.drewN k11) b was ops2 := by obtain ⟨s1, h1, h2⟩ := hW10; exact ⟨s1, h1.drewN k11, h2⟩
                  have hQf := hQ10.keep (below_drewN (Below.refl _ _) k11)
                  have hwf := hGw10.keep (below_drewN (Below.refl _ _) k11)
                  have hlf := hGl10.keep (below_drewN (Below.refl _ _) k11)
                  have hBf := below_drewN hB10 k11
                  clear hS hWd hW10 hQ10 hGw10 hGl10 hB10 hBe10
                  go_wp2
                  go_roundw
                  case rel => exact ⟨k + 1, by omega, by go_num, hWf, hQf, hwf, hlf, hBf⟩
                  case measure => simp [intOf]; omega
              · have t1 : ((th : Int) % 3 == 1) = true := by simp; omega
                have t2 : ((th : Int) % 3 == 2) = false := by simp; omega
                clear h3
                go_wp2_with fail
                refine (sync_ w8 b _ s8 hBe8).mono ?_
                rintro e w9 ⟨rfl, hBe9, hg9⟩
                have hI9 := inv_sync hI8
                have hQ9 := hQ8.grown hg9 hwb1 (fun j hj => by have hj2 : some g2 = some j := hj; injection hj2 with hj2; omega)
                have hGw9 := gotn_grown hGw8 hg9 hbB6
                have hGl9 := gotn_grown hGl8 hg9 hbB7
                have hb9 : Below w.heap.size w w9 := hb8.grown hg9 hb8.size (fun j hj => by injection hj with hj; omega)
                obtain ⟨s9, hs9⟩ : ∃ s9, syncS s8 = s9 := ⟨_, rfl⟩
                rw [hs9] at hI9 hBe9
                clear hs9 hg9 hI8 hBe8 hQ8 hGw8 hGl8 hb8
                have hn9 : s9.n = 30 := hI9.1.1
                have hrd := bread_ w9 b _ s9 hBe9
                rw [hn9] at hrd
                have hrd' : Calls Try.prog 15 #[.pointer (some ⟨b, 0, none⟩), .int .i64 0, .int .i64 30] w9 (fun e w' => AnsN w9 w' e 0 s9.vol) := hrd
                clear hrd hn9
                go_wp2_with fail
                refine hrd'.mono ?_
                rintro e w10 ⟨A10, p10, q10, rfl, hG10, hb10⟩
                have hBe10 := hBe9.below hb10
                have hQ10 := hQ9.keep hb10
                have hGw10 := hGw9.keep hb10
                have hGl10 := hGl9.keep hb10
                have hB10 := below_step hb9 hb10 (Nat.le_refl _)
                have hp10 : p10 ≤ 9223372036854775807 := by have := hG10.bounds; omega
                have hW10 : WhS w10 b was ops2 := ⟨_, hBe10, hI9⟩
                clear hrd' hb10 hBe9 hQ9 hGw9 hGl9 hb9
                rcases hI9.2 with hh | hh
                · rw [hh.vol] at hG10
                  have hS := fun j => snap_ (w10.drewN j) b _ s9 (hBe10.drewN j)
                  rw [hh.num] at hS
                  have hWd := fun j => words_same3 (w10.drewN j) A10 A6 p10 p6 q10 q6 was (hG10.ns.drewN j) (hGw10.ns.drewN j) hp10
                  clear hh hG10
                  go_wp2_with fail
                  refine (hS 0).mono ?_
                  rintro e w11 ⟨rfl, rfl⟩
                  go_wp2_with fail
                  refine (hWd 0).mono ?_
                  rintro e w11 ⟨rfl, k11, rfl⟩
                  go_wp2_with fail
                  refine (hS k11).mono ?_
                  rintro e w11 ⟨rfl, rfl⟩
                  go_wp2_with fail
                  refine (hS k11).mono ?_
                  rintro e w11 ⟨rfl, rfl⟩
                  have hWf : WhS (w10.drewN k11) b was ops2 := by obtain ⟨s1, h1, h2⟩ := hW10; exact ⟨s1, h1.drewN k11, h2⟩
                  have hQf := hQ10.keep (below_drewN (Below.refl _ _) k11)
                  have hwf := hGw10.keep (below_drewN (Below.refl _ _) k11)
                  have hlf := hGl10.keep (below_drewN (Below.refl _ _) k11)
                  have hBf := below_drewN hB10 k11
                  clear hS hWd hW10 hQ10 hGw10 hGl10 hB10 hBe10
                  go_wp2
                  go_roundw
                  case rel => exact ⟨k + 1, by omega, by go_num, hWf, hQf, hwf, hlf, hBf⟩
                  case measure => simp [intOf]; omega
                · rw [hh.vol, Hwill.out] at hG10
                  have hS := fun j => snap_ (w10.drewN j) b _ s9 (hBe10.drewN j)
                  rw [hh.num] at hS
                  have hWd := fun j => words_same3 (w10.drewN j) A10 A7 p10 p7 q10 q7 will (hG10.ns.drewN j) (hGl10.ns.drewN j) hp10
                  clear hh hG10
                  go_wp2_with fail
                  refine (hS 0).mono ?_
                  rintro e w11 ⟨rfl, rfl⟩
                  go_wp2_with fail
                  refine (hS 0).mono ?_
                  rintro e w11 ⟨rfl, rfl⟩
                  go_wp2_with fail
                  refine (hWd 0).mono ?_
                  rintro e w11 ⟨rfl, k11, rfl⟩
                  go_wp2_with fail
                  refine (hS k11).mono ?_
                  rintro e w11 ⟨rfl, rfl⟩
                  go_wp2_with fail
                  refine (hS k11).mono ?_
                  rintro e w11 ⟨rfl, rfl⟩
                  have hWf : WhS (w10.drewN k11) b was ops2 := by obtain ⟨s1, h1, h2⟩ := hW10; exact ⟨s1, h1.drewN k11, h2⟩
                  have hQf := hQ10.keep (below_drewN (Below.refl _ _) k11)
                  have hwf := hGw10.keep (below_drewN (Below.refl _ _) k11)
                  have hlf := hGl10.keep (below_drewN (Below.refl _ _) k11)
                  have hBf := below_drewN hB10 k11
                  clear hS hWd hW10 hQ10 hGw10 hGl10 hB10 hBe10
                  go_wp2
                  go_roundw
                  case rel => exact ⟨k + 1, by omega, by go_num, hWf, hQf, hwf, hlf, hBf⟩
                  case measure => simp [intOf]; omega
              · have t1 : ((th : Int) % 3 == 1) = false := by simp; omega
                have t2 : ((th : Int) % 3 == 2) = true := by simp; omega
                clear h3
                go_wp2_with fail
                refine (crash_ w8 b _ s8 hBe8).mono ?_
                rintro e w9 ⟨rfl, hBe9, hg9⟩
                have hI9 := inv_crash hI8
                have hQ9 := hQ8.grown hg9 hwb1 (fun j hj => by have hj2 : some g2 = some j := hj; injection hj2 with hj2; omega)
                have hGw9 := gotn_grown hGw8 hg9 hbB6
                have hGl9 := gotn_grown hGl8 hg9 hbB7
                have hb9 : Below w.heap.size w w9 := hb8.grown hg9 hb8.size (fun j hj => by injection hj with hj; omega)
                obtain ⟨s9, hs9⟩ : ∃ s9, crashS s8 = s9 := ⟨_, rfl⟩
                rw [hs9] at hI9 hBe9
                clear hs9 hg9 hI8 hBe8 hQ8 hGw8 hGl8 hb8
                have hn9 : s9.n = 30 := hI9.1.1
                have hrd := bread_ w9 b _ s9 hBe9
                rw [hn9] at hrd
                have hrd' : Calls Try.prog 15 #[.pointer (some ⟨b, 0, none⟩), .int .i64 0, .int .i64 30] w9 (fun e w' => AnsN w9 w' e 0 s9.vol) := hrd
                clear hrd hn9
                go_wp2_with fail
                refine hrd'.mono ?_
                rintro e w10 ⟨A10, p10, q10, rfl, hG10, hb10⟩
                have hBe10 := hBe9.below hb10
                have hQ10 := hQ9.keep hb10
                have hGw10 := hGw9.keep hb10
                have hGl10 := hGl9.keep hb10
                have hB10 := below_step hb9 hb10 (Nat.le_refl _)
                have hp10 : p10 ≤ 9223372036854775807 := by have := hG10.bounds; omega
                have hW10 : WhS w10 b was ops2 := ⟨_, hBe10, hI9⟩
                clear hrd' hb10 hBe9 hQ9 hGw9 hGl9 hb9
                rcases hI9.2 with hh | hh
                · rw [hh.vol] at hG10
                  have hS := fun j => snap_ (w10.drewN j) b _ s9 (hBe10.drewN j)
                  rw [hh.num] at hS
                  have hWd := fun j => words_same3 (w10.drewN j) A10 A6 p10 p6 q10 q6 was (hG10.ns.drewN j) (hGw10.ns.drewN j) hp10
                  clear hh hG10
                  go_wp2_with fail
                  refine (hS 0).mono ?_
                  rintro e w11 ⟨rfl, rfl⟩
                  go_wp2_with fail
                  refine (hWd 0).mono ?_
                  rintro e w11 ⟨rfl, k11, rfl⟩
                  go_wp2_with fail
                  refine (hS k11).mono ?_
                  rintro e w11 ⟨rfl, rfl⟩
                  go_wp2_with fail
                  refine (hS k11).mono ?_
                  rintro e w11 ⟨rfl, rfl⟩
                  have hWf : WhS (w10.drewN k11) b was ops2 := by obtain ⟨s1, h1, h2⟩ := hW10; exact ⟨s1, h1.drewN k11, h2⟩
                  have hQf := hQ10.keep (below_drewN (Below.refl _ _) k11)
                  have hwf := hGw10.keep (below_drewN (Below.refl _ _) k11)
                  have hlf := hGl10.keep (below_drewN (Below.refl _ _) k11)
                  have hBf := below_drewN hB10 k11
                  clear hS hWd hW10 hQ10 hGw10 hGl10 hB10 hBe10
                  go_wp2
                  go_roundw
                  case rel => exact ⟨k + 1, by omega, by go_num, hWf, hQf, hwf, hlf, hBf⟩
                  case measure => simp [intOf]; omega
                · rw [hh.vol, Hwill.out] at hG10
                  have hS := fun j => snap_ (w10.drewN j) b _ s9 (hBe10.drewN j)
                  rw [hh.num] at hS
                  have hWd := fun j => words_same3 (w10.drewN j) A10 A7 p10 p7 q10 q7 will (hG10.ns.drewN j) (hGl10.ns.drewN j) hp10
                  clear hh hG10
                  go_wp2_with fail
                  refine (hS 0).mono ?_
                  rintro e w11 ⟨rfl, rfl⟩
                  go_wp2_with fail
                  refine (hS 0).mono ?_
                  rintro e w11 ⟨rfl, rfl⟩
                  go_wp2_with fail
                  refine (hWd 0).mono ?_
                  rintro e w11 ⟨rfl, k11, rfl⟩
                  go_wp2_with fail
                  refine (hS k11).mono ?_
                  rintro e w11 ⟨rfl, rfl⟩
                  go_wp2_with fail
                  refine (hS k11).mono ?_
                  rintro e w11 ⟨rfl, rfl⟩
                  have hWf : WhS (w10.drewN k11) b was ops2 := by obtain ⟨s1, h1, h2⟩ := hW10; exact ⟨s1, h1.drewN k11, h2⟩
                  have hQf := hQ10.keep (below_drewN (Below.refl _ _) k11)
                  have hwf := hGw10.keep (below_drewN (Below.refl _ _) k11)
                  have hlf := hGl10.keep (below_drewN (Below.refl _ _) k11)
                  have hBf := below_drewN hB10 k11
                  clear hS hWd hW10 hQ10 hGw10 hGl10 hB10 hBe10
                  go_wp2
                  go_roundw
                  case rel => exact ⟨k + 1, by omega, by go_num, hWf, hQf, hwf, hlf, hBf⟩
                  case measure => simp [intOf]; omega
            · have hin3 : (n3 : Int) ≤ (k : Int) := by omega
              clear hBe hInv hQ hGw hGl hw3
              go_wp2
              go_ret
              exact ⟨rfl, hb⟩
end
end Lan
open Lan Str

set_option maxRecDepth 100000 in
theorem landWhole_lifted (os : Os) (started : os.Started) (H : Type) (enc : TypeId × Value → H) (F : Stop.Interp) :
    ReturnsInHanded {} Try.checked os 3 .any ((Rows.OpenSpec.upto Rows.landWholeSpec).pre6 enc Try.prog Try.f3 Rows.landWholeUptoRow.domain false) (((Rows.OpenSpec.upto Rows.landWholeSpec).at F).post enc Try.prog Try.f3 false true false false) := by
  refine law_upto (C := Try.checked) (tb := 4) own_ started (by kernel_rfl) Try.func3
    (OpenSpec.witness (enc := enc) (C := Try.checked) (s := Rows.OpenSpec.upto Rows.landWholeSpec) (k := Rows.uptoSmall) rfl false ⟨#[], #[.slice none 0 0, .slice none 0 0, .slice none 0 0], []⟩ 8 (by kernel_rfl) (by kernel_rfl) (by kernel_rfl) (x := ([.nil, .nil, .nil], [], [])) (by kernel_rfl) rfl (by kernel_rfl))
    rfl rfl Try.underlying4 laidOut_ (by kernel_rfl) (fun ds h => by match ds, h with | [_, _, _], _ => rfl) ?_
  intro W base args ds p hval0 hA0 _ hsz0 hbulk
  have hval : ∀ (j : Nat) t v, Try.f3.params[j]? = some t → args[j]? = some v → Value.okWide Try.prog W .any base t v := hval0
  have hA : DataW.TrodAll enc Try.prog W 0 (fun _ => true) true Try.f3.params.toList args.toList ds p := hA0
  have hsz : (DataW.weightsEach Try.prog Try.f3.params.toList ds).all (· ≤ reachBytes) = true := hsz0
  clear hval0 hA0 hsz0
  rw [Try.params3] at hA hval hsz
  obtain ⟨v0, v1, v2, d0, d1, d2, p0, p1, p2, rfl, rfl, rfl, h0, h1, h2⟩ := trodAll_three hA
  have hB : Rows.uptoBulk d0 + Rows.uptoBulk d1 + Rows.uptoBulk d2 ≤ 1048576 := by simp only [Rows.uptoBulkAll] at hbulk; omega
  obtain ⟨A0, n0, c0, xs0, rfl, r0, b0⟩ := arg_slice ops_ops Try.underlying22 (hval 0 _ v0 rfl rfl) h0 (weight_at hsz (j := 0) rfl rfl)
  obtain ⟨A1, n1, c1, xs1, rfl, r1, b1⟩ := arg_slice ops_ops Try.underlying22 (hval 1 _ v1 rfl rfl) h1 (weight_at hsz (j := 1) rfl rfl)
  obtain ⟨A2, n2, c2, xs2, rfl, r2, b2⟩ := arg_slice ops_ways Try.underlying23 (hval 2 _ v2 rfl rfl) h2 (weight_at hsz (j := 2) rfl rfl)
  obtain ⟨q1, q2, q3⟩ := ops_os r0
  obtain ⟨t1, t2, t3⟩ := ops_os r1
  have hb := bulks_len opShp op_bulk xs0
  have hb' := bulks_len opShp op_bulk xs1
  have hl := q1.len
  have hl' := t1.len
  rw [List.length_map] at hl hl'
  have hb0 : bulks opShp xs0 + 1 ≤ Rows.uptoBulk d0 := b0
  have hb1 : bulks opShp xs1 + 1 ≤ Rows.uptoBulk d1 := b1
  exact whole_walk W A0 n0 c0 _ q1 (by omega) A1 n1 c1 _ t1 (by omega) A2 n2 c2 _ r2

/-- LandWhole, where what it reads is of bulk at most 1048576: the statement as it was given. -/
theorem landWhole_holds : Rows.LandWholeUptoSaid :=
  OpenClaim.holds_of_cond 3 Try.f3 rfl rfl rfl rfl rfl rfl rfl ⟨rfl, rfl, rfl, rfl, rfl⟩ rfl rfl rfl rfl rfl (by kernel_rfl) Try.func3 (by kernel_rfl)
    (of_decide_eq_true (by kernel_rfl)) (by unfold Func.isWrapper; first | (rw [if_pos (by decide +kernel)]; kernel_rfl) | (rw [if_neg (by decide +kernel)]; exact ⟨rfl, rfl⟩))
    (fun os started H enc _ F => landWhole_lifted os started H enc F)
end Go.Proofs.Ytganoklclnbjkaa
