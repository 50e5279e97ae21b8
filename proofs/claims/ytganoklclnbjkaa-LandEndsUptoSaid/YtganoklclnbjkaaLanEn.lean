/- LandEnds: if the records of a stream are handed in, in order, from the durable count on, behind each loss of power again, it lands, and no record below the durable count is taken again: for all lists of ops and of losses of bulk at most 1048576. -/
import Derived.Test.YtganoklclnbjkaaLanB3
import Derived.Test.YtganoklclnbjkaaByt
import Derived.Lib.MinMax
import Derived.BigQuiet
set_option linter.all false
namespace Go.Proofs.Ytganoklclnbjkaa
open Go.ChangeShapes Go.WideShapes Go.ChangeAt Go.RowKit
namespace Lan
open Str (Rec mayB FitR Rdt Rcl RC ra rv RecV recShp toRec rec_arr ops_rec k8 rc_of own_ laidOut_ bldL recOp tailR)
open Blo (I64 GotN AnsN apL)
theorem u8_info : ∃ i, Try.prog.info? 5 = some i ∧ i.zero = some (.int .u8 0) ∧ i.size = 1 ∧ i.bytes = 1 := by
  obtain ⟨i, hi, he⟩ := Option.map_eq_some_iff.1 info_u8
  simp only [Prod.mk.injEq] at he
  exact ⟨i, hi, he.1, he.2.1, he.2.2⟩
theorem words_same4 (w : World) (A B : Option Addr) (n m c d : Nat) (a : List Nat) (ha : Ns w A n a) (hb : Ns w B m a) (hn : n ≤ 9223372036854775807) :
    Calls Try.prog 17 #[.slice A n c, .slice B m d] w fun e w' => e = .returned (.bool true) ∧ ∃ k, w' = w.drewN k := by
  have := Blo.words_ w A B n m c d a a ha hb hn
  rwa [decide_eq_true rfl] at this
theorem rc_grown {w w' : World} {b o g : Nat} {r : Rec} {d : Value} (h : RC w b o r d) (hg : w.grownBy w' (some g)) (hne : b ≠ g) : RC w' b o r d := by
  have k : ∀ {j : Nat} {u : Value}, w.cell? ⟨b, j, none⟩ = some u → w'.cell? ⟨b, j, none⟩ = some u := fun {j u} hc => by
    rw [World.cell?_of_block (a := ⟨b, j, none⟩) (hg.block b (cell_lt hc) (fun e => hne (by injection e)))]
    exact hc
  exact ⟨k h.c0, k h.c1, k h.c2, k h.c3, k h.c4, k h.c5, k h.c6, k h.c7⟩
theorem bs_at {w : World} {A : Option Addr} {n : Nat} {xs : List UInt8} (h : Bs w A n xs) {k : Nat} (hk : k < n) : ∃ b o x, A = some ⟨b, o, none⟩ ∧ xs[k]? = some x ∧ w.cell? ⟨b, o + k, none⟩ = some (.int .u8 (x.toNat : Int)) := by
  obtain ⟨b, o, e, hx, hc⟩ := Bs.at_ h hk
  exact ⟨b, o, xs[k], e, List.getElem?_eq_getElem hx, hc⟩
section
variable (w : World)
set_option maxRecDepth 100000 in
set_option maxHeartbeats 64000000 in
theorem ends_walk (S1 : Option Addr) (n1 c1 : Nat) (ops1 : List BOp) (ho1 : Blo.Opl w S1 n1 ops1) (hn1 : n1 ≤ 2000000) (S2 : Option Addr) (n2 c2 : Nat) (xs : List UInt8) (hxs : Bs w S2 n2 xs) (hS2 : S2 = none → n2 = 0 ∧ c2 = 0) (hn2c : n2 ≤ c2) (hc2 : c2 ≤ 9223372036854775807) (ev : Nat) (hev : ev < 256) :
    Calls Try.prog 4 #[.slice S1 n1 c1, .slice S2 n2 c2, .int .u8 (ev : Int)] w fun e w' => e = .returned (.bool true) ∧ Below w.heap.size w w' := by
  obtain ⟨i0, hi0, hz0, hz1, hz2⟩ := u8_info
  have Hz := Lib.hid hz2
  clear hz2
  go_enter Try.func4, Try.ntmps4
  go_wp2_with fail
  refine (rbuild_ w hE hE_fit rfl rfl hE_may S1 n1 c1 ops1 ho1 hn1).mono ?_
  rintro e w1 (⟨er, hne, rfl, hb1⟩ | ⟨B, m, d, L, rfl, hRw, hLL, hgood, hb1⟩)
  · have hne2 : (er != 0) = true := by simpa using hne
    clear hne
    go_wp2_with fail
    refine (new_ w1 3 2 30 (by omega) (i64s (by omega) (by omega)) (by omega) (i64s (by omega) (by omega)) (by omega)).mono ?_
    rintro e w2 ⟨b, rfl, hB2, hbb, hb2⟩
    go_wp2_with fail
    refine (alive_ w2).mono ?_
    rintro e w3 ⟨rfl, hb3⟩
    have hB3 := below_step (below_step hb1 hb2 (Nat.le_refl _)) hb3 (Nat.le_refl _)
    go_wp2
    go_ret
    exact ⟨rfl, hB3⟩
  · have hst : Stm 30 hE ops1 := stm_of (by omega) rfl rfl rfl hgood
    have hmL : m = ops1.length + 2 := by rw [hRw.len, ← bld_len hE ops1, ← hLL, List.length_map]
    have hops := ho1.len
    obtain ⟨g, rfl, hgl, hgh⟩ := rw_block hRw (by omega)
    have hm9 : m ≤ 2000002 := by omega
    have Hml := Lib.hid hmL
    clear hmL hgood hops
    go_wp2_with fail
    refine (new_ w1 3 2 30 (by omega) (i64s (by omega) (by omega)) (by omega) (i64s (by omega) (by omega)) (by omega)).mono ?_
    rintro e w2 ⟨b, rfl, hB2, hbb, hb2⟩
    have hbl := hB2.lt
    go_wp2_with fail
    refine (alive_ w2).mono ?_
    rintro e w3 ⟨rfl, hb3⟩
    have hb23 := below_step hb2 hb3 (Nat.le_refl _)
    have hwb : w.heap.size ≤ b := Nat.le_trans hb1.size hbb
    have hgb : g ≠ b := by omega
    have hRw3 := hRw.keep hb23
    have hBe3 : Be w3 b (fun _ => True) (enS ops1 0 0) := hB2.below hb3
    have hB3 : Below w.heap.size w w3 := below_step hb1 hb23 (Nat.le_refl _)
    have hbl3 := hBe3.lt
    have hxs3 := hxs.below hB3
    obtain ⟨q, hq⟩ : ∃ q, min n2 40 = q := ⟨_, rfl⟩
    have hqi : min (n2 : Int) 40 = (q : Int) := by omega
    have hq2 : q ≤ n2 := by omega
    have hq40 : q ≤ 40 := by omega
    have hqc : (q : Int) ≤ (c2 : Int) := by omega
    have hqcn : q ≤ c2 := by omega
    have hq0 : (0 : Int) ≤ (q : Int) := by omega
    have htake := hxs3.take hq2
    have Hq := Lib.hid hq
    clear hRw hB2 hb2 hb3 hb23 hq
    have hS2q : S2 = none → q = 0 := fun h => by have := (hS2 h).1; omega
    have hxl : (xs.take q).length = q := by have := hxs3.len; rw [List.length_take]; omega
    go_wp2_with (first
      | (at_builtin
         refine wpList_app _ rfl (.const (.slice none 0 0)) (.tmp 54) _ rfl w3.heap.size 5 i0 _ 1 1 Try.underlying45 hi0 hz0 hz1 Hz.out rfl Nat.one_pos (.slice none 0 0) 0 [] rfl (own_nil _ _ _ _) S2 q c2 (bvs (xs.take q)) rfl hS2q htake (bvs_one _) (by unfold maxLen; omega) (by omega) (Nat.le_refl _) ?_
         intro v4 w4 hown4 hg4 hat4
         simp only [Nat.zero_add, List.nil_append] at hown4
         have hb34 : Below w3.heap.size w3 w4 := (Below.refl _ _).grown hg4 (Nat.le_refl _) (fun k hk => by cases hk)
         obtain ⟨A4, c4, rfl, hqc4, hc4, ha4⟩ := own_form hown4
         have hba4 : Below w4.heap.size w4 (w4.alloc (.cells #[.int .u8 255] 5)) := (Below.refl _ _).alloc (Nat.le_refl _) _
         have hownA := own_keep hown4 hba4
         have hnews : Rd (w4.alloc (.cells #[.int .u8 255] 5)) (some ⟨w4.heap.size, 0, none⟩) 1 1 (bvs [255]) := Bs.new w4 [255] 5 (0, 0)
         have hz4 : w3.heap.size ≤ (w4.alloc (.cells #[.int .u8 255] 5)).heap.size := Nat.le_trans hb34.size hba4.size)
      | (at_builtin
         refine wpList_app _ rfl (.tmp 55) (.tmp 56) _ rfl w3.heap.size 5 i0 _ 1 1 Try.underlying45 hi0 hz0 hz1 Hz.out rfl Nat.one_pos (.slice A4 q c4) q (bvs (xs.take q)) rfl hownA (some ⟨w4.heap.size, 0, none⟩) 1 1 (bvs [255]) rfl (by simp) hnews (bvs_one _) (by unfold maxLen; omega) (by omega) hz4 ?_
         intro v5 w5 hown5 hg5 hat5
         have hb45 : Below w3.heap.size (w4.alloc (.cells #[.int .u8 255] 5)) w5 := (Below.refl _ _).grown hg5 hz4 (fun k hk => (hownA.lt k hk).1)
         obtain ⟨A5, c5, rfl, hqc5, hc5, ha5⟩ := own_form hown5)
      | fail)
    have hb35 : Below w3.heap.size w3 w5 := (hb34.trans (hba4.mono hb34.size)).trans hb45
    have hA5 : ∀ a, A5 = some a → a.block ≠ b := fun a ha => by subst ha; have := (hown5.lt a.block rfl).1; omega
    obtain ⟨ys, hys⟩ : ∃ ys, xs.take q ++ [255] = ys := ⟨_, rfl⟩
    have hys5 : Bs w5 A5 (q + 1) ys := by rw [← hys]; exact bs_own (by rw [bvs_append]; exact hown5)
    have hlast : ∀ x, ys[q]? = some x → x.toNat = 255 := fun x hx => by
      rw [← hys, List.getElem?_append_right (by omega), hxl] at hx
      simp at hx
      rw [← hx]
      rfl
    have hRw5 := hRw3.keep hb35
    have hBe5 := hBe3.below hb35
    have hB5 : Below w.heap.size w w5 := hB3.trans (hb35.mono hB3.size)
    obtain ⟨f5, hf5⟩ : ∃ f5, ev % 5 = f5 := ⟨_, rfl⟩
    have hf5l : f5 < 5 := by omega
    have hfi : (ev : Int) % 5 = (f5 : Int) := by omega
    have hmpos : 2 ≤ m := by have := Hml.out; omega
    obtain ⟨V, hV⟩ : ∃ V, apL z30 ops1 = V := ⟨_, rfl⟩
    have HV := Lib.hid hV
    obtain ⟨j0, hj0, jz0, jz1, jz2⟩ := u64_info
    have Jz := Lib.hid jz2
    clear jz2 hb34 hba4 hb45 hown4 hown5 hownA hnews hz4 hg4 hg5 hat4 hat5 hys htake hxl hxs3 hRw3 hBe3 hB3 hb35 hqi hq2 hqc hqcn hq0 hS2q hxs hS2 hf5 hV ha4 ha5
    go_loopw [12, 59] (fun sv iv wr => ∃ i su : Nat, i ≤ q ∧ iv = .int .i64 (i : Int) ∧ sv = .int .i64 (su : Int) ∧ su + 1 ≤ m ∧ Be wr b (fun _ => True) (enS ops1 su su) ∧ Rw wr w.heap.size (.slice (some ⟨g, 0, none⟩) m d) m L ∧ Bs wr A5 (q + 1) ys ∧ Below w.heap.size w wr) (fun _ iv _ => q + 1 - (intOf iv).toNat)
    case atStart => exact ⟨0, 0, Nat.zero_le _, rfl, rfl, by omega, hBe5, hRw5, hys5, hB5⟩
    case round =>
      obtain ⟨i, su, hiq, rfl, rfl, hsu, hBe, hR, hYs, hb⟩ := hrel
      clear hBe5 hRw5 hys5 hB5
      obtain ⟨wo, rfl⟩ : ∃ wo : World, wo = wr := ⟨_, rfl⟩
      have hil : (i : Int) < (q : Int) + 1 := by omega
      have hi0' : (0 : Int) ≤ (i : Int) := by omega
      obtain ⟨gA, oA, x5, rfl, hx5, cx5⟩ := bs_at hYs (k := i) (by omega)
      obtain ⟨cc, hcc⟩ : ∃ cc, x5.toNat = cc := ⟨_, rfl⟩
      have hccl : cc < 256 := by rw [← hcc]; exact x5.toNat_lt
      have hcq : i = q → cc = 255 := fun e => by rw [← hcc]; exact hlast x5 (by rw [← e]; exact hx5)
      rw [hcc] at cx5
      have hco := coming_ wo b _ (enS ops1 su su) hBe
      rw [en_ct (by have := Hml.out; omega)] at hco
      obtain ⟨nm, hnm⟩ : ∃ nm, (enS ops1 su su).c.num = nm := ⟨_, rfl⟩
      rw [hnm] at hco
      clear hx5 hcc hnm
      go_wp2_with fail
      refine hco.mono ?_
      rintro e w6 ⟨rfl, k6, rfl⟩
      have hBe6 := hBe.drewN k6
      have hR6 := hR.keep (below_drewN (Below.refl _ _) k6)
      have hYs6 := hYs.drewN k6
      have hB6 := below_drewN hb k6
      clear hco hBe hR hYs hb cx5
      go_wp2_with fail
      go_loopw [12, 16, 17] (fun sv av kv wr => ∃ s2 at2 k : Nat, kv = .int .i64 (k : Int) ∧ av = .int .i64 (at2 : Int) ∧ sv = .int .i64 (s2 : Int) ∧ k ≤ at2 ∧ s2 ≤ at2 ∧ at2 + 1 ≤ m ∧ Be wr b (fun _ => True) (enS ops1 at2 s2) ∧ Rw wr w.heap.size (.slice (some ⟨g, 0, none⟩) m d) m L ∧ Bs wr (some ⟨gA, oA, none⟩) (q + 1) ys ∧ Below w.heap.size w wr) (fun _ av _ _ => m - (intOf av).toNat)
      case atStart => exact ⟨su, su, 0, rfl, rfl, rfl, Nat.zero_le _, Nat.le_refl _, hsu, hBe6, hR6, hYs6, hB6⟩
      case round =>
        obtain ⟨s2, at2, k, rfl, rfl, rfl, hka, hsa, ham, hBe, hR, hYs, hb⟩ := hrel
        clear hBe6 hR6 hYs6 hB6
        have hat : (at2 : Int) < (m : Int) := by omega
        have hat0 : (0 : Int) ≤ (at2 : Int) := by omega
        have hgA : gA ≠ b := hA5 _ rfl
        by_cases hkc : (k : Int) < (cc : Int)
        · have hkc2 : decide ((k : Int) < (cc : Int)) = true := by simpa using hkc
          by_cases hs0 : s2 = 0
          · subst hs0
            go_wp2_with fail
            go_quiet (fail)
            obtain ⟨w7, hw7⟩ : ∃ w7, wr.drewN nq = w7 := ⟨_, rfl⟩
            have hBe7 := hBe.drewN nq
            have hR7 := hR.keep (below_drewN (Below.refl _ _) nq)
            have hYs7 := hYs.drewN nq
            have hb7 := below_drewN hb nq
            rw [hw7] at hBe7 hR7 hYs7 hb7
            clear hBe hR hYs hb
            have hrf := Rw.rfb hR7 (b := b) hwb (fun a ha => by injection ha with ha; subst ha; exact hgb)
            obtain ⟨bb, o3, X3, p3, q3, x3, e, hx3, hc3, hd3⟩ := hrf.at_ (k := at2) (by omega)
            injection e with e
            injection e with e1 e2
            subst e1 e2
            rw [hLL] at hx3
            obtain ⟨c0, c1', c2', c3, c4', c5', c6, c7⟩ := hc3.all
            simp only [Nat.zero_add] at c0 c1' c2' c3 c4' c5' c6 c7
            have hT := take_ w7 b (fun _ => True) (enS ops1 at2 0) (at2 : Int) x3 X3 p3 q3 hBe7 (fun _ _ => trivial) (by unfold I64; omega) hd3
            by_cases hlast2 : at2 + 1 = m
            · have hatl : at2 = ops1.length + 1 := by have := Hml.out; omega
              have hL3 := en_last (d := 0) hst (r := x3) (by rw [← hatl]; exact hx3)
              rw [← hatl] at hL3
              rw [hL3.1, hL3.2] at hT
              have hw9 : IntKind.i64.wrap ((at2 : Int) + 1) = (m : Int) := by rw [IntKind.wrap_i64]; omega
              have hmm : ((m : Int) == (m : Int)) = true := by simp
              clear hL3 hatl hx3 hc3 hd3 hrf
              go_wp2_with fail
              refine hT.mono ?_
              rintro e w8 ⟨rfl, hBe8, hg8⟩
              have hb8 : Below w.heap.size w w8 := hb7.grown hg8 hb7.size (fun j hj => by injection hj with hj; omega)
              clear hT hg8 hBe7 hR7 hYs7 hb7 c0 c1' c2' c3 c4' c5' c6 c7 hlast2
              have hn8 : (enF ops1).vol = V := HV.out
              go_wp2_with (first
                | (at_make
                   refine wpList_make_blk _ rfl _ _ 27 rfl 62 j0 _ 1 8 Try.underlying27 hj0 jz0 jz1 Jz.out .i64 .i64 _ _ 30 rfl rfl rfl rfl (by omega) (by omega) ?_
                   intro w9 hk9 hb9 hs9)
                | fail)
              have hZ : w9.ownsRow w8.heap.size 62 1 (.slice (some ⟨w8.heap.size, 0, none⟩) 30 30) 30 (nvs z30) := Blo.own_blk hk9 (Nat.le_refl _) (by unfold maxLen; omega) (by rw [Nat.mul_one, Blo.nvs_repl]; exact Blo.made_list 30 _) (by rw [nvs_length]; simp)
              have hB9 := below_step hb8 hb9 (Nat.le_refl _)
              have hzn : Ns w9 (some ⟨w8.heap.size, 0, none⟩) 30 z30 := no_ns hZ (fun z hz => by rw [List.eq_of_mem_replicate hz]; omega)
              refine (Blo.rapply_ w9 (some ⟨w8.heap.size, 0, none⟩) 30 30 z30 hzn (by omega) S1 n1 c1 ops1 (ho1.below hB9) (by omega)).mono ?_
              rw [HV.out]
              rintro e w10 ⟨A10, p10, q10, rfl, hG10, hb10⟩
              have hB10 := below_step hB9 hb10 (Nat.le_refl _)
              have hbe8 := hBe8.lt
              have hb9s := hb9.size
              have hb10s := hb10.size
              have hBe10 := hBe8.below (below_step hb9 hb10 (Nat.le_refl _))
              have hp10 : p10 ≤ 9223372036854775807 := by have := hG10.bounds; omega
              have hrd : Calls Try.prog 15 #[.pointer (some ⟨b, 0, none⟩), .int .i64 0, .int .i64 30] w10 (fun e w' => AnsN w10 w' e 0 V) := by rw [← hn8]; exact bread_ w10 b _ (enF ops1) hBe10
              clear hZ hzn hk9 hb9 hb10 hs9 hBe8
              go_wp2_with fail
              refine hrd.mono ?_
              rintro e w11 ⟨A11, p11, q11, rfl, hG11, hb11⟩
              have hBe11 := hBe10.below hb11
              have hG10' := hG10.keep hb11
              have hB11 := below_step hB10 hb11 (Nat.le_refl _)
              have hb11s := hb11.size
              have hp11 : p11 ≤ 9223372036854775807 := by have := hG11.bounds; omega
              have hco : Calls Try.prog 18 #[.pointer (some ⟨b, 0, none⟩)] w11 (fun e w' => e = .returned (.tuple #[.int .i64 0, .int .i64 0]) ∧ ∃ k, w' = w11.drewN k) := coming_ w11 b _ (enF ops1) hBe11
              clear hrd hb11 hBe10 hG10
              go_wp2_with fail
              refine hco.mono ?_
              rintro e w12 ⟨rfl, k12, rfl⟩
              have hBe12 := hBe11.drewN k12
              have hG10'' := hG10'.keep (below_drewN (Below.refl _ _) k12)
              have hG11' := hG11.keep (below_drewN (Below.refl _ _) k12)
              have hB12 := below_drewN hB11 k12
              clear hco hBe11 hG10' hG11 hB11
              go_wp2_with fail
              refine (crash_ _ b _ (enF ops1) hBe12).mono ?_
              rintro e w13 ⟨rfl, hBe13, hg13⟩
              have hBe13 : Be w13 b (fun _ => True) (enF ops1) := hBe13
              have hG10c := gotn_grown hG10'' hg13 (by omega)
              have hG11c := gotn_grown hG11' hg13 (by omega)
              have hB13 : Below w.heap.size w w13 := hB12.grown hg13 hB12.size (fun j hj => by injection hj with hj; omega)
              have hrd : Calls Try.prog 15 #[.pointer (some ⟨b, 0, none⟩), .int .i64 0, .int .i64 30] w13 (fun e w' => AnsN w13 w' e 0 V) := by rw [← hn8]; exact bread_ w13 b _ (enF ops1) hBe13
              clear hG10'' hG11' hg13 hB12 hBe12
              go_wp2_with fail
              refine hrd.mono ?_
              rintro e w14 ⟨A14, p14, q14, rfl, hG14, hb14⟩
              have hBe14 := hBe13.below hb14
              have hG10d := hG10c.keep hb14
              have hG11d := hG11c.keep hb14
              have hB14 := below_step hB13 hb14 (Nat.le_refl _)
              have hp14 : p14 ≤ 9223372036854775807 := by have := hG14.bounds; omega
              have hsn : Calls Try.prog 16 #[.pointer (some ⟨b, 0, none⟩)] w14 (fun e w' => e = .returned (.int .i64 7) ∧ w14 = w') := snap_ w14 b _ (enF ops1) hBe14
              clear hrd hb14 hBe13 hG10c hG11c hB13
              go_wp2_with fail
              refine hsn.mono ?_
              rintro e w15 ⟨rfl, rfl⟩
              have hWd1 := words_same4 w14 A11 A10 p11 p10 q11 q10 V hG11d.ns hG10d.ns hp11
              have hWd2 := fun j => words_same4 (w14.drewN j) A14 A10 p14 p10 q14 q10 V (hG14.ns.drewN j) (hG10d.ns.drewN j) hp14
              clear hsn hG10d hG11d hG14 hBe14
              go_wp2_with fail
              refine hWd1.mono ?_
              rintro e w16 ⟨rfl, k16, rfl⟩
              go_wp2_with fail
              refine (hWd2 k16).mono ?_
              rintro e w17 ⟨rfl, k17, rfl⟩
              have hBf := below_drewN hB14 (k16 + k17)
              clear hWd1 hWd2
              go_wp2
              go_ret
              exact ⟨rfl, hBf⟩
            · have hL3 := en_next (d := 0) hst (r := x3) hx3 (by have := Hml.out; omega)
              rw [hL3.1, hL3.2] at hT
              have hw9 : IntKind.i64.wrap ((at2 : Int) + 1) = ((at2 + 1 : Nat) : Int) := by rw [IntKind.wrap_i64]; omega
              obtain ⟨at3, hat3⟩ : ∃ at3, at2 + 1 = at3 := ⟨_, rfl⟩
              rw [hat3] at hw9 hT
              have hmm : ((at3 : Int) == (m : Int)) = false := by simp; omega
              have hf0 : ((f5 : Int) + 1 == 0) = false := by simp; omega
              have Hat3 := Lib.hid hat3
              clear hL3 hx3 hc3 hd3 hrf hat3
              go_wp2_with fail
              refine hT.mono ?_
              rintro e w8 ⟨rfl, hBe8, hg8⟩
              have hb8 : Below w.heap.size w w8 := hb7.grown hg8 hb7.size (fun j hj => by injection hj with hj; omega)
              have hR8 := hR7.grown hg8 hwb (fun j hj => by have hj2 : some g = some j := hj; injection hj2 with hj2; omega)
              have hYs8 := hYs7.grown hg8 (fun a ha e => by injection e with e; injection ha with ha; subst ha; exact hgA e)
              clear hT hg8 hBe7 hR7 hYs7 hb7 c0 c1' c2' c3 c4' c5' c6 c7
              by_cases hsy : (k : Int) % ((f5 : Int) + 1) = 0
              · have hsyb : ((k : Int) % ((f5 : Int) + 1) == 0) = true := by simpa using hsy
                have hsc := sync_ w8 b _ (enS ops1 at3 0) hBe8
                rw [en_ct (by have := Hml.out; have := Hat3.out; omega)] at hsc
                clear hsy hBe8
                go_wp2_with fail
                refine hsc.mono ?_
                rintro e w9 ⟨rfl, hBe9, hg9⟩
                have hBe9 : Be w9 b (fun _ => True) (enS ops1 at3 at3) := hBe9
                have hb9 : Below w.heap.size w w9 := hb8.grown hg9 hb8.size (fun j hj => by injection hj with hj; omega)
                have hR9 := hR8.grown hg9 hwb (fun j hj => by have hj2 : some g = some j := hj; injection hj2 with hj2; omega)
                have hYs9 := hYs8.grown hg9 (fun a ha e => by injection e with e; injection ha with ha; subst ha; exact hgA e)
                clear hsc hg9 hR8 hYs8 hb8
                go_wp2
                go_roundw
                case rel => exact ⟨at3, at3, k + 1, by go_num, rfl, rfl, by have := Hat3.out; omega, Nat.le_refl _, by have := Hat3.out; omega, hBe9, hR9, hYs9, hb9⟩
                case measure => have := Hat3.out; simp [intOf]; omega
              · have hsyb : ((k : Int) % ((f5 : Int) + 1) == 0) = false := by simpa using hsy
                clear hsy
                go_wp2
                go_roundw
                case rel => exact ⟨0, at3, k + 1, by go_num, rfl, rfl, by have := Hat3.out; omega, by have := Hat3.out; omega, by have := Hat3.out; omega, hBe8, hR8, hYs8, hb8⟩
                case measure => have := Hat3.out; simp [intOf]; omega
          · have hsp : (0 : Int) < (s2 : Int) := by omega
            have hspn : 0 < s2 := by omega
            have hspd : decide ((0 : Int) < (s2 : Int)) = true := by simpa using hspn
            have hspd2 : decide (0 < s2) = true := by simpa using hspn
            have hsz : ((s2 : Int) == 0) = false := by simp; omega
            obtain ⟨ix, hix⟩ : ∃ ix, k % s2 = ix := ⟨_, rfl⟩
            have hixl : ix < s2 := by rw [← hix]; exact Nat.mod_lt _ (by omega)
            have hixi : (k : Int) % (s2 : Int) = (ix : Int) := by rw [← hix]; rfl
            have hsz3 : ¬ (s2 : Int) = 0 := by omega
            have htm : (k : Int).tmod (s2 : Int) = (ix : Int) := by rw [Int.tmod_eq_emod_of_nonneg (by omega)]; exact hixi
            have hwx : IntKind.i64.wrap (ix : Int) = (ix : Int) := by rw [IntKind.wrap_i64]; omega
            have hwt : IntKind.i64.wrap ((k : Int).tmod (s2 : Int)) = (ix : Int) := by rw [htm]; exact hwx
            have hxm : (ix : Int) < (m : Int) := by omega
            have hx0 : (0 : Int) ≤ (ix : Int) := by omega
            have hrf0 := Rw.rfb hR (b := b) hwb (fun a ha => by injection ha with ha; subst ha; exact hgb)
            obtain ⟨bb, o2, X2, p2, q2, x2, e, hx2, hc2', hd2⟩ := hrf0.at_ (k := ix) (by omega)
            injection e with e
            injection e with e1 e2
            subst e1 e2
            rw [hLL] at hx2
            have hE10 := en_twice (d := s2) (k := at2) hst hx2 (by have := Hml.out; omega) (by omega)
            rw [Nat.zero_add] at hc2'
            obtain ⟨b0, b1, b2, b3, b4, b5, b6, b7⟩ := hc2'.all
            have hgo := fun j => take_ (wr.drewN (j + 1)) b (fun _ => True) (enS ops1 at2 s2) (ix : Int) x2 X2 p2 q2 (hBe.drewN (j + 1)) (fun _ _ => trivial) (by unfold I64; omega) (rdt_drewN hd2 (j + 1))
            rw [takS_no (by rw [hE10]; decide), hE10] at hgo
            have hRCk : ∀ j, RC (wr.drewN j) g (ix * 8) x2 (.slice X2 p2 q2) := fun j => ⟨hc2'.c0, hc2'.c1, hc2'.c2, hc2'.c3, hc2'.c4, hc2'.c5, hc2'.c6, hc2'.c7⟩
            clear hix hrf0 hx2 hE10 hd2
            go_wp2_with fail
            go_region_held3 (fun w' => w'.cell? ⟨g, ix * 8, none⟩ = some (.int .i64 x2.k) ∧ w'.cell? ⟨g, ix * 8 + 1, none⟩ = some (.int .i64 x2.sh) ∧ w'.cell? ⟨g, ix * 8 + 2, none⟩ = some (.int .i64 x2.sn) ∧ w'.cell? ⟨g, ix * 8 + 3, none⟩ = some (.int .i64 x2.ba) ∧ w'.cell? ⟨g, ix * 8 + 4, none⟩ = some (.int .i64 x2.ma) ∧ w'.cell? ⟨g, ix * 8 + 5, none⟩ = some (.int .i64 x2.off) ∧ w'.cell? ⟨g, ix * 8 + 6, none⟩ = some (.int .i64 x2.len) ∧ w'.cell? ⟨g, ix * 8 + 7, none⟩ = some (.slice X2 p2 q2))
              (first | go_keep | exact ⟨b0, b1, b2, b3, b4, b5, b6, b7⟩ | exact (rc_grown (hRCk _) hg7 hgb).all)
              (first
                | (go_at_call 11; refine (hgo _).mono ?_; rintro e w7 ⟨rfl, hBe7, hg7⟩))
            have hw7s : Below w.heap.size w (wr.drewN (0 + 1)) := below_drewN hb (0 + 1)
            have hb7 : Below w.heap.size w w7 := hw7s.grown hg7 hw7s.size (fun j hj => by injection hj with hj; omega)
            have hR7 := (hR.keep (below_drewN (Below.refl _ _) (0 + 1))).grown hg7 hwb (fun j hj => by have hj2 : some g = some j := hj; injection hj2 with hj2; omega)
            have hYs7 := (hYs.drewN (0 + 1)).grown hg7 (fun a ha e => by injection e with e; injection ha with ha; subst ha; exact hgA e)
            clear hgo hRCk hc2' b0 b1 b2 b3 b4 b5 b6 b7 hBe hR hYs hb hg7 hw7s htm hwx hwt hixi hsz hsz3 hspd hspd2 hs0 hixl hxm hx0
            have hrf := Rw.rfb hR7 (b := b) hwb (fun a ha => by injection ha with ha; subst ha; exact hgb)
            obtain ⟨bb, o3, X3, p3, q3, x3, e, hx3, hc3, hd3⟩ := hrf.at_ (k := at2) (by omega)
            injection e with e
            injection e with e1 e2
            subst e1 e2
            rw [hLL] at hx3
            obtain ⟨c0, c1', c2', c3, c4', c5', c6, c7⟩ := hc3.all
            simp only [Nat.zero_add] at c0 c1' c2' c3 c4' c5' c6 c7
            have hT := take_ w7 b (fun _ => True) (enS ops1 at2 s2) (at2 : Int) x3 X3 p3 q3 hBe7 (fun _ _ => trivial) (by unfold I64; omega) hd3
            by_cases hlast2 : at2 + 1 = m
            · have hatl : at2 = ops1.length + 1 := by have := Hml.out; omega
              have hL3 := en_last (d := s2) hst (r := x3) (by rw [← hatl]; exact hx3)
              rw [← hatl] at hL3
              rw [hL3.1, hL3.2] at hT
              have hw9 : IntKind.i64.wrap ((at2 : Int) + 1) = (m : Int) := by rw [IntKind.wrap_i64]; omega
              have hmm : ((m : Int) == (m : Int)) = true := by simp
              clear hL3 hatl hx3 hc3 hd3 hrf
              go_wp2_with fail
              refine hT.mono ?_
              rintro e w8 ⟨rfl, hBe8, hg8⟩
              have hb8 : Below w.heap.size w w8 := hb7.grown hg8 hb7.size (fun j hj => by injection hj with hj; omega)
              clear hT hg8 hBe7 hR7 hYs7 hb7 c0 c1' c2' c3 c4' c5' c6 c7 hlast2
              have hn8 : (enF ops1).vol = V := HV.out
              go_wp2_with (first
                | (at_make
                   refine wpList_make_blk _ rfl _ _ 27 rfl 62 j0 _ 1 8 Try.underlying27 hj0 jz0 jz1 Jz.out .i64 .i64 _ _ 30 rfl rfl rfl rfl (by omega) (by omega) ?_
                   intro w9 hk9 hb9 hs9)
                | fail)
              have hZ : w9.ownsRow w8.heap.size 62 1 (.slice (some ⟨w8.heap.size, 0, none⟩) 30 30) 30 (nvs z30) := Blo.own_blk hk9 (Nat.le_refl _) (by unfold maxLen; omega) (by rw [Nat.mul_one, Blo.nvs_repl]; exact Blo.made_list 30 _) (by rw [nvs_length]; simp)
              have hB9 := below_step hb8 hb9 (Nat.le_refl _)
              have hzn : Ns w9 (some ⟨w8.heap.size, 0, none⟩) 30 z30 := no_ns hZ (fun z hz => by rw [List.eq_of_mem_replicate hz]; omega)
              refine (Blo.rapply_ w9 (some ⟨w8.heap.size, 0, none⟩) 30 30 z30 hzn (by omega) S1 n1 c1 ops1 (ho1.below hB9) (by omega)).mono ?_
              rw [HV.out]
              rintro e w10 ⟨A10, p10, q10, rfl, hG10, hb10⟩
              have hB10 := below_step hB9 hb10 (Nat.le_refl _)
              have hbe8 := hBe8.lt
              have hb9s := hb9.size
              have hb10s := hb10.size
              have hBe10 := hBe8.below (below_step hb9 hb10 (Nat.le_refl _))
              have hp10 : p10 ≤ 9223372036854775807 := by have := hG10.bounds; omega
              have hrd : Calls Try.prog 15 #[.pointer (some ⟨b, 0, none⟩), .int .i64 0, .int .i64 30] w10 (fun e w' => AnsN w10 w' e 0 V) := by rw [← hn8]; exact bread_ w10 b _ (enF ops1) hBe10
              clear hZ hzn hk9 hb9 hb10 hs9 hBe8
              go_wp2_with fail
              refine hrd.mono ?_
              rintro e w11 ⟨A11, p11, q11, rfl, hG11, hb11⟩
              have hBe11 := hBe10.below hb11
              have hG10' := hG10.keep hb11
              have hB11 := below_step hB10 hb11 (Nat.le_refl _)
              have hb11s := hb11.size
              have hp11 : p11 ≤ 9223372036854775807 := by have := hG11.bounds; omega
              have hco : Calls Try.prog 18 #[.pointer (some ⟨b, 0, none⟩)] w11 (fun e w' => e = .returned (.tuple #[.int .i64 0, .int .i64 0]) ∧ ∃ k, w' = w11.drewN k) := coming_ w11 b _ (enF ops1) hBe11
              clear hrd hb11 hBe10 hG10
              go_wp2_with fail
              refine hco.mono ?_
              rintro e w12 ⟨rfl, k12, rfl⟩
              have hBe12 := hBe11.drewN k12
              have hG10'' := hG10'.keep (below_drewN (Below.refl _ _) k12)
              have hG11' := hG11.keep (below_drewN (Below.refl _ _) k12)
              have hB12 := below_drewN hB11 k12
              clear hco hBe11 hG10' hG11 hB11
              go_wp2_with fail
              refine (crash_ _ b _ (enF ops1) hBe12).mono ?_
              rintro e w13 ⟨rfl, hBe13, hg13⟩
              have hBe13 : Be w13 b (fun _ => True) (enF ops1) := hBe13
              have hG10c := gotn_grown hG10'' hg13 (by omega)
              have hG11c := gotn_grown hG11' hg13 (by omega)
              have hB13 : Below w.heap.size w w13 := hB12.grown hg13 hB12.size (fun j hj => by injection hj with hj; omega)
              have hrd : Calls Try.prog 15 #[.pointer (some ⟨b, 0, none⟩), .int .i64 0, .int .i64 30] w13 (fun e w' => AnsN w13 w' e 0 V) := by rw [← hn8]; exact bread_ w13 b _ (enF ops1) hBe13
              clear hG10'' hG11' hg13 hB12 hBe12
              go_wp2_with fail
              refine hrd.mono ?_
              rintro e w14 ⟨A14, p14, q14, rfl, hG14, hb14⟩
              have hBe14 := hBe13.below hb14
              have hG10d := hG10c.keep hb14
              have hG11d := hG11c.keep hb14
              have hB14 := below_step hB13 hb14 (Nat.le_refl _)
              have hp14 : p14 ≤ 9223372036854775807 := by have := hG14.bounds; omega
              have hsn : Calls Try.prog 16 #[.pointer (some ⟨b, 0, none⟩)] w14 (fun e w' => e = .returned (.int .i64 7) ∧ w14 = w') := snap_ w14 b _ (enF ops1) hBe14
              clear hrd hb14 hBe13 hG10c hG11c hB13
              go_wp2_with fail
              refine hsn.mono ?_
              rintro e w15 ⟨rfl, rfl⟩
              have hWd1 := words_same4 w14 A11 A10 p11 p10 q11 q10 V hG11d.ns hG10d.ns hp11
              have hWd2 := fun j => words_same4 (w14.drewN j) A14 A10 p14 p10 q14 q10 V (hG14.ns.drewN j) (hG10d.ns.drewN j) hp14
              clear hsn hG10d hG11d hG14 hBe14
              go_wp2_with fail
              refine hWd1.mono ?_
              rintro e w16 ⟨rfl, k16, rfl⟩
              go_wp2_with fail
              refine (hWd2 k16).mono ?_
              rintro e w17 ⟨rfl, k17, rfl⟩
              have hBf := below_drewN hB14 (k16 + k17)
              clear hWd1 hWd2
              go_wp2
              go_ret
              exact ⟨rfl, hBf⟩
            · have hL3 := en_next (d := s2) hst (r := x3) hx3 (by have := Hml.out; omega)
              rw [hL3.1, hL3.2] at hT
              have hw9 : IntKind.i64.wrap ((at2 : Int) + 1) = ((at2 + 1 : Nat) : Int) := by rw [IntKind.wrap_i64]; omega
              obtain ⟨at3, hat3⟩ : ∃ at3, at2 + 1 = at3 := ⟨_, rfl⟩
              rw [hat3] at hw9 hT
              have hmm : ((at3 : Int) == (m : Int)) = false := by simp; omega
              have hf0 : ((f5 : Int) + 1 == 0) = false := by simp; omega
              have Hat3 := Lib.hid hat3
              clear hL3 hx3 hc3 hd3 hrf hat3
              go_wp2_with fail
              refine hT.mono ?_
              rintro e w8 ⟨rfl, hBe8, hg8⟩
              have hb8 : Below w.heap.size w w8 := hb7.grown hg8 hb7.size (fun j hj => by injection hj with hj; omega)
              have hR8 := hR7.grown hg8 hwb (fun j hj => by have hj2 : some g = some j := hj; injection hj2 with hj2; omega)
              have hYs8 := hYs7.grown hg8 (fun a ha e => by injection e with e; injection ha with ha; subst ha; exact hgA e)
              clear hT hg8 hBe7 hR7 hYs7 hb7 c0 c1' c2' c3 c4' c5' c6 c7
              by_cases hsy : (k : Int) % ((f5 : Int) + 1) = 0
              · have hsyb : ((k : Int) % ((f5 : Int) + 1) == 0) = true := by simpa using hsy
                have hsc := sync_ w8 b _ (enS ops1 at3 s2) hBe8
                rw [en_ct (by have := Hml.out; have := Hat3.out; omega)] at hsc
                clear hsy hBe8
                go_wp2_with fail
                refine hsc.mono ?_
                rintro e w9 ⟨rfl, hBe9, hg9⟩
                have hBe9 : Be w9 b (fun _ => True) (enS ops1 at3 at3) := hBe9
                have hb9 : Below w.heap.size w w9 := hb8.grown hg9 hb8.size (fun j hj => by injection hj with hj; omega)
                have hR9 := hR8.grown hg9 hwb (fun j hj => by have hj2 : some g = some j := hj; injection hj2 with hj2; omega)
                have hYs9 := hYs8.grown hg9 (fun a ha e => by injection e with e; injection ha with ha; subst ha; exact hgA e)
                clear hsc hg9 hR8 hYs8 hb8
                go_wp2
                go_roundw
                case rel => exact ⟨at3, at3, k + 1, by go_num, rfl, rfl, by have := Hat3.out; omega, Nat.le_refl _, by have := Hat3.out; omega, hBe9, hR9, hYs9, hb9⟩
                case measure => have := Hat3.out; simp [intOf]; omega
              · have hsyb : ((k : Int) % ((f5 : Int) + 1) == 0) = false := by simpa using hsy
                clear hsy
                go_wp2
                go_roundw
                case rel => exact ⟨s2, at3, k + 1, by go_num, rfl, rfl, by have := Hat3.out; omega, by have := Hat3.out; omega, by have := Hat3.out; omega, hBe8, hR8, hYs8, hb8⟩
                case measure => have := Hat3.out; simp [intOf]; omega
        · have hkc2 : decide ((k : Int) < (cc : Int)) = false := by simpa using hkc
          by_cases h255 : cc = 255
          · have hcb : ((cc : Int) == 255) = true := by simp; omega
            clear h255
            by_cases hs0 : s2 = 0
            · subst hs0
              go_wp2_with fail
              go_quiet (fail)
              obtain ⟨w7, hw7⟩ : ∃ w7, wr.drewN nq = w7 := ⟨_, rfl⟩
              have hBe7 := hBe.drewN nq
              have hR7 := hR.keep (below_drewN (Below.refl _ _) nq)
              have hYs7 := hYs.drewN nq
              have hb7 := below_drewN hb nq
              rw [hw7] at hBe7 hR7 hYs7 hb7
              clear hBe hR hYs hb
              have hrf := Rw.rfb hR7 (b := b) hwb (fun a ha => by injection ha with ha; subst ha; exact hgb)
              obtain ⟨bb, o3, X3, p3, q3, x3, e, hx3, hc3, hd3⟩ := hrf.at_ (k := at2) (by omega)
              injection e with e
              injection e with e1 e2
              subst e1 e2
              rw [hLL] at hx3
              obtain ⟨c0, c1', c2', c3, c4', c5', c6, c7⟩ := hc3.all
              simp only [Nat.zero_add] at c0 c1' c2' c3 c4' c5' c6 c7
              have hT := take_ w7 b (fun _ => True) (enS ops1 at2 0) (at2 : Int) x3 X3 p3 q3 hBe7 (fun _ _ => trivial) (by unfold I64; omega) hd3
              by_cases hlast2 : at2 + 1 = m
              · have hatl : at2 = ops1.length + 1 := by have := Hml.out; omega
                have hL3 := en_last (d := 0) hst (r := x3) (by rw [← hatl]; exact hx3)
                rw [← hatl] at hL3
                rw [hL3.1, hL3.2] at hT
                have hw9 : IntKind.i64.wrap ((at2 : Int) + 1) = (m : Int) := by rw [IntKind.wrap_i64]; omega
                have hmm : ((m : Int) == (m : Int)) = true := by simp
                clear hL3 hatl hx3 hc3 hd3 hrf
                go_wp2_with fail
                refine hT.mono ?_
                rintro e w8 ⟨rfl, hBe8, hg8⟩
                have hb8 : Below w.heap.size w w8 := hb7.grown hg8 hb7.size (fun j hj => by injection hj with hj; omega)
                clear hT hg8 hBe7 hR7 hYs7 hb7 c0 c1' c2' c3 c4' c5' c6 c7 hlast2
                have hn8 : (enF ops1).vol = V := HV.out
                go_wp2_with (first
                  | (at_make
                     refine wpList_make_blk _ rfl _ _ 27 rfl 62 j0 _ 1 8 Try.underlying27 hj0 jz0 jz1 Jz.out .i64 .i64 _ _ 30 rfl rfl rfl rfl (by omega) (by omega) ?_
                     intro w9 hk9 hb9 hs9)
                  | fail)
                have hZ : w9.ownsRow w8.heap.size 62 1 (.slice (some ⟨w8.heap.size, 0, none⟩) 30 30) 30 (nvs z30) := Blo.own_blk hk9 (Nat.le_refl _) (by unfold maxLen; omega) (by rw [Nat.mul_one, Blo.nvs_repl]; exact Blo.made_list 30 _) (by rw [nvs_length]; simp)
                have hB9 := below_step hb8 hb9 (Nat.le_refl _)
                have hzn : Ns w9 (some ⟨w8.heap.size, 0, none⟩) 30 z30 := no_ns hZ (fun z hz => by rw [List.eq_of_mem_replicate hz]; omega)
                refine (Blo.rapply_ w9 (some ⟨w8.heap.size, 0, none⟩) 30 30 z30 hzn (by omega) S1 n1 c1 ops1 (ho1.below hB9) (by omega)).mono ?_
                rw [HV.out]
                rintro e w10 ⟨A10, p10, q10, rfl, hG10, hb10⟩
                have hB10 := below_step hB9 hb10 (Nat.le_refl _)
                have hbe8 := hBe8.lt
                have hb9s := hb9.size
                have hb10s := hb10.size
                have hBe10 := hBe8.below (below_step hb9 hb10 (Nat.le_refl _))
                have hp10 : p10 ≤ 9223372036854775807 := by have := hG10.bounds; omega
                have hrd : Calls Try.prog 15 #[.pointer (some ⟨b, 0, none⟩), .int .i64 0, .int .i64 30] w10 (fun e w' => AnsN w10 w' e 0 V) := by rw [← hn8]; exact bread_ w10 b _ (enF ops1) hBe10
                clear hZ hzn hk9 hb9 hb10 hs9 hBe8
                go_wp2_with fail
                refine hrd.mono ?_
                rintro e w11 ⟨A11, p11, q11, rfl, hG11, hb11⟩
                have hBe11 := hBe10.below hb11
                have hG10' := hG10.keep hb11
                have hB11 := below_step hB10 hb11 (Nat.le_refl _)
                have hb11s := hb11.size
                have hp11 : p11 ≤ 9223372036854775807 := by have := hG11.bounds; omega
                have hco : Calls Try.prog 18 #[.pointer (some ⟨b, 0, none⟩)] w11 (fun e w' => e = .returned (.tuple #[.int .i64 0, .int .i64 0]) ∧ ∃ k, w' = w11.drewN k) := coming_ w11 b _ (enF ops1) hBe11
                clear hrd hb11 hBe10 hG10
                go_wp2_with fail
                refine hco.mono ?_
                rintro e w12 ⟨rfl, k12, rfl⟩
                have hBe12 := hBe11.drewN k12
                have hG10'' := hG10'.keep (below_drewN (Below.refl _ _) k12)
                have hG11' := hG11.keep (below_drewN (Below.refl _ _) k12)
                have hB12 := below_drewN hB11 k12
                clear hco hBe11 hG10' hG11 hB11
                go_wp2_with fail
                refine (crash_ _ b _ (enF ops1) hBe12).mono ?_
                rintro e w13 ⟨rfl, hBe13, hg13⟩
                have hBe13 : Be w13 b (fun _ => True) (enF ops1) := hBe13
                have hG10c := gotn_grown hG10'' hg13 (by omega)
                have hG11c := gotn_grown hG11' hg13 (by omega)
                have hB13 : Below w.heap.size w w13 := hB12.grown hg13 hB12.size (fun j hj => by injection hj with hj; omega)
                have hrd : Calls Try.prog 15 #[.pointer (some ⟨b, 0, none⟩), .int .i64 0, .int .i64 30] w13 (fun e w' => AnsN w13 w' e 0 V) := by rw [← hn8]; exact bread_ w13 b _ (enF ops1) hBe13
                clear hG10'' hG11' hg13 hB12 hBe12
                go_wp2_with fail
                refine hrd.mono ?_
                rintro e w14 ⟨A14, p14, q14, rfl, hG14, hb14⟩
                have hBe14 := hBe13.below hb14
                have hG10d := hG10c.keep hb14
                have hG11d := hG11c.keep hb14
                have hB14 := below_step hB13 hb14 (Nat.le_refl _)
                have hp14 : p14 ≤ 9223372036854775807 := by have := hG14.bounds; omega
                have hsn : Calls Try.prog 16 #[.pointer (some ⟨b, 0, none⟩)] w14 (fun e w' => e = .returned (.int .i64 7) ∧ w14 = w') := snap_ w14 b _ (enF ops1) hBe14
                clear hrd hb14 hBe13 hG10c hG11c hB13
                go_wp2_with fail
                refine hsn.mono ?_
                rintro e w15 ⟨rfl, rfl⟩
                have hWd1 := words_same4 w14 A11 A10 p11 p10 q11 q10 V hG11d.ns hG10d.ns hp11
                have hWd2 := fun j => words_same4 (w14.drewN j) A14 A10 p14 p10 q14 q10 V (hG14.ns.drewN j) (hG10d.ns.drewN j) hp14
                clear hsn hG10d hG11d hG14 hBe14
                go_wp2_with fail
                refine hWd1.mono ?_
                rintro e w16 ⟨rfl, k16, rfl⟩
                go_wp2_with fail
                refine (hWd2 k16).mono ?_
                rintro e w17 ⟨rfl, k17, rfl⟩
                have hBf := below_drewN hB14 (k16 + k17)
                clear hWd1 hWd2
                go_wp2
                go_ret
                exact ⟨rfl, hBf⟩
              · have hL3 := en_next (d := 0) hst (r := x3) hx3 (by have := Hml.out; omega)
                rw [hL3.1, hL3.2] at hT
                have hw9 : IntKind.i64.wrap ((at2 : Int) + 1) = ((at2 + 1 : Nat) : Int) := by rw [IntKind.wrap_i64]; omega
                obtain ⟨at3, hat3⟩ : ∃ at3, at2 + 1 = at3 := ⟨_, rfl⟩
                rw [hat3] at hw9 hT
                have hmm : ((at3 : Int) == (m : Int)) = false := by simp; omega
                have hf0 : ((f5 : Int) + 1 == 0) = false := by simp; omega
                have Hat3 := Lib.hid hat3
                clear hL3 hx3 hc3 hd3 hrf hat3
                go_wp2_with fail
                refine hT.mono ?_
                rintro e w8 ⟨rfl, hBe8, hg8⟩
                have hb8 : Below w.heap.size w w8 := hb7.grown hg8 hb7.size (fun j hj => by injection hj with hj; omega)
                have hR8 := hR7.grown hg8 hwb (fun j hj => by have hj2 : some g = some j := hj; injection hj2 with hj2; omega)
                have hYs8 := hYs7.grown hg8 (fun a ha e => by injection e with e; injection ha with ha; subst ha; exact hgA e)
                clear hT hg8 hBe7 hR7 hYs7 hb7 c0 c1' c2' c3 c4' c5' c6 c7
                by_cases hsy : (k : Int) % ((f5 : Int) + 1) = 0
                · have hsyb : ((k : Int) % ((f5 : Int) + 1) == 0) = true := by simpa using hsy
                  have hsc := sync_ w8 b _ (enS ops1 at3 0) hBe8
                  rw [en_ct (by have := Hml.out; have := Hat3.out; omega)] at hsc
                  clear hsy hBe8
                  go_wp2_with fail
                  refine hsc.mono ?_
                  rintro e w9 ⟨rfl, hBe9, hg9⟩
                  have hBe9 : Be w9 b (fun _ => True) (enS ops1 at3 at3) := hBe9
                  have hb9 : Below w.heap.size w w9 := hb8.grown hg9 hb8.size (fun j hj => by injection hj with hj; omega)
                  have hR9 := hR8.grown hg9 hwb (fun j hj => by have hj2 : some g = some j := hj; injection hj2 with hj2; omega)
                  have hYs9 := hYs8.grown hg9 (fun a ha e => by injection e with e; injection ha with ha; subst ha; exact hgA e)
                  clear hsc hg9 hR8 hYs8 hb8
                  go_wp2
                  go_roundw
                  case rel => exact ⟨at3, at3, k + 1, by go_num, rfl, rfl, by have := Hat3.out; omega, Nat.le_refl _, by have := Hat3.out; omega, hBe9, hR9, hYs9, hb9⟩
                  case measure => have := Hat3.out; simp [intOf]; omega
                · have hsyb : ((k : Int) % ((f5 : Int) + 1) == 0) = false := by simpa using hsy
                  clear hsy
                  go_wp2
                  go_roundw
                  case rel => exact ⟨0, at3, k + 1, by go_num, rfl, rfl, by have := Hat3.out; omega, by have := Hat3.out; omega, by have := Hat3.out; omega, hBe8, hR8, hYs8, hb8⟩
                  case measure => have := Hat3.out; simp [intOf]; omega
            · have hsp : (0 : Int) < (s2 : Int) := by omega
              have hspn : 0 < s2 := by omega
              have hspd : decide ((0 : Int) < (s2 : Int)) = true := by simpa using hspn
              have hspd2 : decide (0 < s2) = true := by simpa using hspn
              have hsz : ((s2 : Int) == 0) = false := by simp; omega
              obtain ⟨ix, hix⟩ : ∃ ix, k % s2 = ix := ⟨_, rfl⟩
              have hixl : ix < s2 := by rw [← hix]; exact Nat.mod_lt _ (by omega)
              have hixi : (k : Int) % (s2 : Int) = (ix : Int) := by rw [← hix]; rfl
              have hsz3 : ¬ (s2 : Int) = 0 := by omega
              have htm : (k : Int).tmod (s2 : Int) = (ix : Int) := by rw [Int.tmod_eq_emod_of_nonneg (by omega)]; exact hixi
              have hwx : IntKind.i64.wrap (ix : Int) = (ix : Int) := by rw [IntKind.wrap_i64]; omega
              have hwt : IntKind.i64.wrap ((k : Int).tmod (s2 : Int)) = (ix : Int) := by rw [htm]; exact hwx
              have hxm : (ix : Int) < (m : Int) := by omega
              have hx0 : (0 : Int) ≤ (ix : Int) := by omega
              have hrf0 := Rw.rfb hR (b := b) hwb (fun a ha => by injection ha with ha; subst ha; exact hgb)
              obtain ⟨bb, o2, X2, p2, q2, x2, e, hx2, hc2', hd2⟩ := hrf0.at_ (k := ix) (by omega)
              injection e with e
              injection e with e1 e2
              subst e1 e2
              rw [hLL] at hx2
              have hE10 := en_twice (d := s2) (k := at2) hst hx2 (by have := Hml.out; omega) (by omega)
              rw [Nat.zero_add] at hc2'
              obtain ⟨b0, b1, b2, b3, b4, b5, b6, b7⟩ := hc2'.all
              have hgo := fun j => take_ (wr.drewN (j + 1)) b (fun _ => True) (enS ops1 at2 s2) (ix : Int) x2 X2 p2 q2 (hBe.drewN (j + 1)) (fun _ _ => trivial) (by unfold I64; omega) (rdt_drewN hd2 (j + 1))
              rw [takS_no (by rw [hE10]; decide), hE10] at hgo
              have hRCk : ∀ j, RC (wr.drewN j) g (ix * 8) x2 (.slice X2 p2 q2) := fun j => ⟨hc2'.c0, hc2'.c1, hc2'.c2, hc2'.c3, hc2'.c4, hc2'.c5, hc2'.c6, hc2'.c7⟩
              clear hix hrf0 hx2 hE10 hd2
              go_wp2_with fail
              go_region_held3 (fun w' => w'.cell? ⟨g, ix * 8, none⟩ = some (.int .i64 x2.k) ∧ w'.cell? ⟨g, ix * 8 + 1, none⟩ = some (.int .i64 x2.sh) ∧ w'.cell? ⟨g, ix * 8 + 2, none⟩ = some (.int .i64 x2.sn) ∧ w'.cell? ⟨g, ix * 8 + 3, none⟩ = some (.int .i64 x2.ba) ∧ w'.cell? ⟨g, ix * 8 + 4, none⟩ = some (.int .i64 x2.ma) ∧ w'.cell? ⟨g, ix * 8 + 5, none⟩ = some (.int .i64 x2.off) ∧ w'.cell? ⟨g, ix * 8 + 6, none⟩ = some (.int .i64 x2.len) ∧ w'.cell? ⟨g, ix * 8 + 7, none⟩ = some (.slice X2 p2 q2))
                (first | go_keep | exact ⟨b0, b1, b2, b3, b4, b5, b6, b7⟩ | exact (rc_grown (hRCk _) hg7 hgb).all)
                (first
                  | (go_at_call 11; refine (hgo _).mono ?_; rintro e w7 ⟨rfl, hBe7, hg7⟩))
              have hw7s : Below w.heap.size w (wr.drewN (0 + 1)) := below_drewN hb (0 + 1)
              have hb7 : Below w.heap.size w w7 := hw7s.grown hg7 hw7s.size (fun j hj => by injection hj with hj; omega)
              have hR7 := (hR.keep (below_drewN (Below.refl _ _) (0 + 1))).grown hg7 hwb (fun j hj => by have hj2 : some g = some j := hj; injection hj2 with hj2; omega)
              have hYs7 := (hYs.drewN (0 + 1)).grown hg7 (fun a ha e => by injection e with e; injection ha with ha; subst ha; exact hgA e)
              clear hgo hRCk hc2' b0 b1 b2 b3 b4 b5 b6 b7 hBe hR hYs hb hg7 hw7s htm hwx hwt hixi hsz hsz3 hspd hspd2 hs0 hixl hxm hx0
              have hrf := Rw.rfb hR7 (b := b) hwb (fun a ha => by injection ha with ha; subst ha; exact hgb)
              obtain ⟨bb, o3, X3, p3, q3, x3, e, hx3, hc3, hd3⟩ := hrf.at_ (k := at2) (by omega)
              injection e with e
              injection e with e1 e2
              subst e1 e2
              rw [hLL] at hx3
              obtain ⟨c0, c1', c2', c3, c4', c5', c6, c7⟩ := hc3.all
              simp only [Nat.zero_add] at c0 c1' c2' c3 c4' c5' c6 c7
              have hT := take_ w7 b (fun _ => True) (enS ops1 at2 s2) (at2 : Int) x3 X3 p3 q3 hBe7 (fun _ _ => trivial) (by unfold I64; omega) hd3
              by_cases hlast2 : at2 + 1 = m
              · have hatl : at2 = ops1.length + 1 := by have := Hml.out; omega
                have hL3 := en_last (d := s2) hst (r := x3) (by rw [← hatl]; exact hx3)
                rw [← hatl] at hL3
                rw [hL3.1, hL3.2] at hT
                have hw9 : IntKind.i64.wrap ((at2 : Int) + 1) = (m : Int) := by rw [IntKind.wrap_i64]; omega
                have hmm : ((m : Int) == (m : Int)) = true := by simp
                clear hL3 hatl hx3 hc3 hd3 hrf
                go_wp2_with fail
                refine hT.mono ?_
                rintro e w8 ⟨rfl, hBe8, hg8⟩
                have hb8 : Below w.heap.size w w8 := hb7.grown hg8 hb7.size (fun j hj => by injection hj with hj; omega)
                clear hT hg8 hBe7 hR7 hYs7 hb7 c0 c1' c2' c3 c4' c5' c6 c7 hlast2
                have hn8 : (enF ops1).vol = V := HV.out
                go_wp2_with (first
                  | (at_make
                     refine wpList_make_blk _ rfl _ _ 27 rfl 62 j0 _ 1 8 Try.underlying27 hj0 jz0 jz1 Jz.out .i64 .i64 _ _ 30 rfl rfl rfl rfl (by omega) (by omega) ?_
                     intro w9 hk9 hb9 hs9)
                  | fail)
                have hZ : w9.ownsRow w8.heap.size 62 1 (.slice (some ⟨w8.heap.size, 0, none⟩) 30 30) 30 (nvs z30) := Blo.own_blk hk9 (Nat.le_refl _) (by unfold maxLen; omega) (by rw [Nat.mul_one, Blo.nvs_repl]; exact Blo.made_list 30 _) (by rw [nvs_length]; simp)
                have hB9 := below_step hb8 hb9 (Nat.le_refl _)
                have hzn : Ns w9 (some ⟨w8.heap.size, 0, none⟩) 30 z30 := no_ns hZ (fun z hz => by rw [List.eq_of_mem_replicate hz]; omega)
                refine (Blo.rapply_ w9 (some ⟨w8.heap.size, 0, none⟩) 30 30 z30 hzn (by omega) S1 n1 c1 ops1 (ho1.below hB9) (by omega)).mono ?_
                rw [HV.out]
                rintro e w10 ⟨A10, p10, q10, rfl, hG10, hb10⟩
                have hB10 := below_step hB9 hb10 (Nat.le_refl _)
                have hbe8 := hBe8.lt
                have hb9s := hb9.size
                have hb10s := hb10.size
                have hBe10 := hBe8.below (below_step hb9 hb10 (Nat.le_refl _))
                have hp10 : p10 ≤ 9223372036854775807 := by have := hG10.bounds; omega
                have hrd : Calls Try.prog 15 #[.pointer (some ⟨b, 0, none⟩), .int .i64 0, .int .i64 30] w10 (fun e w' => AnsN w10 w' e 0 V) := by rw [← hn8]; exact bread_ w10 b _ (enF ops1) hBe10
                clear hZ hzn hk9 hb9 hb10 hs9 hBe8
                go_wp2_with fail
                refine hrd.mono ?_
                rintro e w11 ⟨A11, p11, q11, rfl, hG11, hb11⟩
                have hBe11 := hBe10.below hb11
                have hG10' := hG10.keep hb11
                have hB11 := below_step hB10 hb11 (Nat.le_refl _)
                have hb11s := hb11.size
                have hp11 : p11 ≤ 9223372036854775807 := by have := hG11.bounds; omega
                have hco : Calls Try.prog 18 #[.pointer (some ⟨b, 0, none⟩)] w11 (fun e w' => e = .returned (.tuple #[.int .i64 0, .int .i64 0]) ∧ ∃ k, w' = w11.drewN k) := coming_ w11 b _ (enF ops1) hBe11
                clear hrd hb11 hBe10 hG10
                go_wp2_with fail
                refine hco.mono ?_
                rintro e w12 ⟨rfl, k12, rfl⟩
                have hBe12 := hBe11.drewN k12
                have hG10'' := hG10'.keep (below_drewN (Below.refl _ _) k12)
                have hG11' := hG11.keep (below_drewN (Below.refl _ _) k12)
                have hB12 := below_drewN hB11 k12
                clear hco hBe11 hG10' hG11 hB11
                go_wp2_with fail
                refine (crash_ _ b _ (enF ops1) hBe12).mono ?_
                rintro e w13 ⟨rfl, hBe13, hg13⟩
                have hBe13 : Be w13 b (fun _ => True) (enF ops1) := hBe13
                have hG10c := gotn_grown hG10'' hg13 (by omega)
                have hG11c := gotn_grown hG11' hg13 (by omega)
                have hB13 : Below w.heap.size w w13 := hB12.grown hg13 hB12.size (fun j hj => by injection hj with hj; omega)
                have hrd : Calls Try.prog 15 #[.pointer (some ⟨b, 0, none⟩), .int .i64 0, .int .i64 30] w13 (fun e w' => AnsN w13 w' e 0 V) := by rw [← hn8]; exact bread_ w13 b _ (enF ops1) hBe13
                clear hG10'' hG11' hg13 hB12 hBe12
                go_wp2_with fail
                refine hrd.mono ?_
                rintro e w14 ⟨A14, p14, q14, rfl, hG14, hb14⟩
                have hBe14 := hBe13.below hb14
                have hG10d := hG10c.keep hb14
                have hG11d := hG11c.keep hb14
                have hB14 := below_step hB13 hb14 (Nat.le_refl _)
                have hp14 : p14 ≤ 9223372036854775807 := by have := hG14.bounds; omega
                have hsn : Calls Try.prog 16 #[.pointer (some ⟨b, 0, none⟩)] w14 (fun e w' => e = .returned (.int .i64 7) ∧ w14 = w') := snap_ w14 b _ (enF ops1) hBe14
                clear hrd hb14 hBe13 hG10c hG11c hB13
                go_wp2_with fail
                refine hsn.mono ?_
                rintro e w15 ⟨rfl, rfl⟩
                have hWd1 := words_same4 w14 A11 A10 p11 p10 q11 q10 V hG11d.ns hG10d.ns hp11
                have hWd2 := fun j => words_same4 (w14.drewN j) A14 A10 p14 p10 q14 q10 V (hG14.ns.drewN j) (hG10d.ns.drewN j) hp14
                clear hsn hG10d hG11d hG14 hBe14
                go_wp2_with fail
                refine hWd1.mono ?_
                rintro e w16 ⟨rfl, k16, rfl⟩
                go_wp2_with fail
                refine (hWd2 k16).mono ?_
                rintro e w17 ⟨rfl, k17, rfl⟩
                have hBf := below_drewN hB14 (k16 + k17)
                clear hWd1 hWd2
                go_wp2
                go_ret
                exact ⟨rfl, hBf⟩
              · have hL3 := en_next (d := s2) hst (r := x3) hx3 (by have := Hml.out; omega)
                rw [hL3.1, hL3.2] at hT
                have hw9 : IntKind.i64.wrap ((at2 : Int) + 1) = ((at2 + 1 : Nat) : Int) := by rw [IntKind.wrap_i64]; omega
                obtain ⟨at3, hat3⟩ : ∃ at3, at2 + 1 = at3 := ⟨_, rfl⟩
                rw [hat3] at hw9 hT
                have hmm : ((at3 : Int) == (m : Int)) = false := by simp; omega
                have hf0 : ((f5 : Int) + 1 == 0) = false := by simp; omega
                have Hat3 := Lib.hid hat3
                clear hL3 hx3 hc3 hd3 hrf hat3
                go_wp2_with fail
                refine hT.mono ?_
                rintro e w8 ⟨rfl, hBe8, hg8⟩
                have hb8 : Below w.heap.size w w8 := hb7.grown hg8 hb7.size (fun j hj => by injection hj with hj; omega)
                have hR8 := hR7.grown hg8 hwb (fun j hj => by have hj2 : some g = some j := hj; injection hj2 with hj2; omega)
                have hYs8 := hYs7.grown hg8 (fun a ha e => by injection e with e; injection ha with ha; subst ha; exact hgA e)
                clear hT hg8 hBe7 hR7 hYs7 hb7 c0 c1' c2' c3 c4' c5' c6 c7
                by_cases hsy : (k : Int) % ((f5 : Int) + 1) = 0
                · have hsyb : ((k : Int) % ((f5 : Int) + 1) == 0) = true := by simpa using hsy
                  have hsc := sync_ w8 b _ (enS ops1 at3 s2) hBe8
                  rw [en_ct (by have := Hml.out; have := Hat3.out; omega)] at hsc
                  clear hsy hBe8
                  go_wp2_with fail
                  refine hsc.mono ?_
                  rintro e w9 ⟨rfl, hBe9, hg9⟩
                  have hBe9 : Be w9 b (fun _ => True) (enS ops1 at3 at3) := hBe9
                  have hb9 : Below w.heap.size w w9 := hb8.grown hg9 hb8.size (fun j hj => by injection hj with hj; omega)
                  have hR9 := hR8.grown hg9 hwb (fun j hj => by have hj2 : some g = some j := hj; injection hj2 with hj2; omega)
                  have hYs9 := hYs8.grown hg9 (fun a ha e => by injection e with e; injection ha with ha; subst ha; exact hgA e)
                  clear hsc hg9 hR8 hYs8 hb8
                  go_wp2
                  go_roundw
                  case rel => exact ⟨at3, at3, k + 1, by go_num, rfl, rfl, by have := Hat3.out; omega, Nat.le_refl _, by have := Hat3.out; omega, hBe9, hR9, hYs9, hb9⟩
                  case measure => have := Hat3.out; simp [intOf]; omega
                · have hsyb : ((k : Int) % ((f5 : Int) + 1) == 0) = false := by simpa using hsy
                  clear hsy
                  go_wp2
                  go_roundw
                  case rel => exact ⟨s2, at3, k + 1, by go_num, rfl, rfl, by have := Hat3.out; omega, by have := Hat3.out; omega, by have := Hat3.out; omega, hBe8, hR8, hYs8, hb8⟩
                  case measure => have := Hat3.out; simp [intOf]; omega
          · have hcb : ((cc : Int) == 255) = false := by simp; omega
            have hiq2 : i + 1 ≤ q := by
              by_cases e : i = q
              · exact absurd (hcq e) h255
              · omega
            have hmm : ((at2 : Int) == (m : Int)) = false := by simp; omega
            have hcr := crash_ wr b _ (enS ops1 at2 s2) hBe
            clear hcq h255
            go_wp2_with fail
            refine hcr.mono ?_
            rintro e w9 ⟨rfl, hBe9, hg9⟩
            have hBe9 : Be w9 b (fun _ => True) (enS ops1 s2 s2) := hBe9
            have hb9 : Below w.heap.size w w9 := hb.grown hg9 hb.size (fun j hj => by injection hj with hj; omega)
            have hR9 := hR.grown hg9 hwb (fun j hj => by have hj2 : some g = some j := hj; injection hj2 with hj2; omega)
            have hYs9 := hYs.grown hg9 (fun a ha e => by injection e with e; injection ha with ha; subst ha; exact hgA e)
            clear hcr hg9 hR hYs hb hBe
            go_wp2
            go_roundw
            case rel => exact ⟨i + 1, s2, hiq2, by go_num, rfl, by omega, hBe9, hR9, hYs9, hb9⟩
            case measure => simp [intOf]; omega
end
end Lan
open Lan Str

set_option maxRecDepth 100000 in
theorem landEnds_lifted (os : Os) (started : os.Started) (H : Type) (enc : TypeId × Value → H) (F : Stop.Interp) :
    ReturnsInHanded {} Try.checked os 4 .any ((Rows.OpenSpec.upto Rows.landEndsSpec).pre6 enc Try.prog Try.f4 Rows.landEndsUptoRow.domain false) (((Rows.OpenSpec.upto Rows.landEndsSpec).at F).post enc Try.prog Try.f4 false true false false) := by
  refine law_upto (C := Try.checked) (tb := 4) own_ started (by kernel_rfl) Try.func4
    (OpenSpec.witness (enc := enc) (C := Try.checked) (s := Rows.OpenSpec.upto Rows.landEndsSpec) (k := Rows.uptoSmall) rfl false ⟨#[], #[.slice none 0 0, .slice none 0 0, .int .u8 0], []⟩ 8 (by kernel_rfl) (by kernel_rfl) (by kernel_rfl) (x := ([.nil, .nil, .lit (.int .u8 0)], [], [])) (by kernel_rfl) rfl (by kernel_rfl))
    rfl rfl Try.underlying4 laidOut_ (by kernel_rfl) (fun ds h => by match ds, h with | [_, _, _], _ => rfl) ?_
  intro W base args ds p hval0 hA0 _ hsz0 hbulk
  have hval : ∀ (j : Nat) t v, Try.f4.params[j]? = some t → args[j]? = some v → Value.okWide Try.prog W .any base t v := hval0
  have hA : DataW.TrodAll enc Try.prog W 0 (fun _ => true) true Try.f4.params.toList args.toList ds p := hA0
  have hsz : (DataW.weightsEach Try.prog Try.f4.params.toList ds).all (· ≤ reachBytes) = true := hsz0
  clear hval0 hA0 hsz0
  rw [Try.params4] at hA hval hsz
  obtain ⟨v0, v1, v2, d0, d1, d2, p0, p1, p2, rfl, rfl, rfl, h0, h1, h2⟩ := trodAll_three hA
  have hB : Rows.uptoBulk d0 + Rows.uptoBulk d1 + Rows.uptoBulk d2 ≤ 1048576 := by simp only [Rows.uptoBulkAll] at hbulk; omega
  obtain ⟨A0, n0, c0, xs0, rfl, r0, b0⟩ := arg_slice ops_ops Try.underlying22 (hval 0 _ v0 rfl rfl) h0 (weight_at hsz (j := 0) rfl rfl)
  obtain ⟨A1, n1, c1, xs1, rfl, r1, b1⟩ := arg_slice ops_bytes Try.underlying45 (hval 1 _ v1 rfl rfl) h1 (weight_at hsz (j := 1) rfl rfl)
  obtain ⟨hb1, hn1, ha1, hc1⟩ := bs_shp r1
  obtain ⟨k2, rfl, hz2⟩ := arg_nat _ Try.underlying5 (hval 2 _ v2 rfl rfl) h2 wf_u8
  obtain ⟨q1, q2, q3⟩ := ops_os r0
  have hb := bulks_len opShp op_bulk xs0
  have hl := q1.len
  rw [List.length_map] at hl
  have hbb : bulks opShp xs0 + 1 ≤ Rows.uptoBulk d0 := b0
  exact ends_walk W A0 n0 c0 _ q1 (by omega) A1 n1 c1 xs1 hb1 ha1 hn1 (by omega) k2 (by omega)

/-- LandEnds, where what it reads is of bulk at most 1048576: the statement as it was given. -/
theorem landEnds_holds : Rows.LandEndsUptoSaid :=
  OpenClaim.holds_of_cond 4 Try.f4 rfl rfl rfl rfl rfl rfl rfl ⟨rfl, rfl, rfl, rfl, rfl⟩ rfl rfl rfl rfl rfl (by kernel_rfl) Try.func4 (by kernel_rfl)
    (of_decide_eq_true (by kernel_rfl)) (by unfold Func.isWrapper; first | (rw [if_pos (by decide +kernel)]; kernel_rfl) | (rw [if_neg (by decide +kernel)]; exact ⟨rfl, rfl⟩))
    (fun os started H enc _ F => landEnds_lifted os started H enc F)
end Go.Proofs.Ytganoklclnbjkaa
