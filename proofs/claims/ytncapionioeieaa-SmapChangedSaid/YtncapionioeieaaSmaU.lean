/- Layer 13: the document's Changed. Printed by wip/tools/gensmau.py. -/
import Derived.Test.YtncapionioeieaaSmaV
import Derived.Test.YtncapionioeieaaSmaJ
set_option linter.all false
namespace Go.Proofs.Ytncapionioeieaa
open Go.RowKit
namespace Sma

theorem open_succ (f g : Nat → Int) (k : Nat) : isOpen f g (k + 1) = !decide (g k = f k) := by simp [isOpen]
theorem chg_same {f g : Nat → Int} {k : Nat} (h : g k = f k) : chg f g (k + 1) = chg f g k := by rw [chg, if_pos h]
theorem chg_more {f g : Nat → Int} {k : Nat} (h : ¬ g k = f k) : chg f g (k + 1) = pushC (chg f g k) (k : Int) (g k) := by rw [chg, if_neg h]
/-- Behind a block that has not turned, or another node: a piece more. -/
theorem push_new {l : List Pc} {b nd : Int} (h : ∀ p y, l = p ++ [y] → ¬ (y.en = b ∧ y.nd = nd)) : pushC l b nd = l ++ [⟨b, b + 1, nd⟩] := by
  rcases snoc_cases l with rfl | ⟨p, y, rfl⟩
  · rfl
  · rw [pushC_snoc, if_neg (h p y rfl)]
section
variable (w : World)
set_option maxRecDepth 100000 in
set_option maxHeartbeats 4000000 in
theorem rchanged_ (a b : Mp) (A B : Option Addr) (k j c d : Nat) (ha : Mr w a A k c) (hb : Mr w b B j d) : Calls Try.prog 28 #[mv a A k c, mv b B j d] w fun e w' => PAns w w' e (changedA a b) := by
  have hbx : Below w.heap.size w ((w.alloc (rmo a A k c)).alloc (rmo b B j d)) := ((Below.refl w.heap.size w).alloc (Nat.le_refl _) _).alloc (by simp) _
  have hk1 := (Blk.new w 25 #[.int .i64 a.v, .int .i64 a.n, .slice A k c] rfl).alloc (rmo b B j d)
  have hk2 := Blk.new (w.alloc (rmo a A k c)) 25 #[.int .i64 b.v, .int .i64 b.n, .slice B j d] (g := w.heap.size + 1) (by simp)
  have hma := ha.below hbx
  have hmb := hb.below hbx
  have han := ha.n
  have hbn := hb.n
  unfold I64 at han hbn
  simp only [mv]
  clear ha hb
  cases h1 : a.right with
  | false =>
    have HR := Lib.hid (changed_bad (a := a) (b := b) (.inl h1))
    go_enter Try.func28, Try.ntmps28
    go_wp2_with fail
    generalize ((w.alloc (rmo a A k c)).alloc (rmo b B j d)) = w1 at *
    refine (rright_ _ a A k c hma).mono ?_
    rw [h1]
    rintro e w2 ⟨rfl, hb2⟩
    go_wp2
    go_ret2
    exact ⟨none, 0, 0, by rw [HR.out]; rfl, by rw [HR.out]; exact Ps.nil, by omega, below_step hbx hb2 (Nat.le_refl _)⟩
  | true =>
    cases h2 : b.right with
    | false =>
      have HR := Lib.hid (changed_bad (a := a) (b := b) (.inr (.inl h2)))
      go_enter Try.func28, Try.ntmps28
      go_wp2_with fail
      generalize ((w.alloc (rmo a A k c)).alloc (rmo b B j d)) = w1 at *
      refine (rright_ _ a A k c hma).mono ?_
      rw [h1]
      rintro e w2 ⟨rfl, hb2⟩
      replace hk1 := hk1.keep hb2
      replace hk2 := hk2.keep hb2
      replace hma := hma.below hb2
      replace hmb := hmb.below hb2
      replace hbx := below_step hbx hb2 (Nat.le_refl _)
      obtain ⟨m0, m1, m2, -, -, -⟩ := cells3 hk2
      clear hb2
      go_wp2_with fail
      refine (rright_ _ b B j d hmb).mono ?_
      rw [h2]
      rintro e w3 ⟨rfl, hb2⟩
      replace hk1 := hk1.keep hb2
      replace hk2 := hk2.keep hb2
      replace hma := hma.below hb2
      replace hmb := hmb.below hb2
      replace hbx := below_step hbx hb2 (Nat.le_refl _)
      clear hb2 m0 m1 m2
      go_wp2
      go_ret2
      exact ⟨none, 0, 0, by rw [HR.out]; rfl, by rw [HR.out]; exact Ps.nil, by omega, hbx⟩
    | true =>
      by_cases h3 : a.n = b.n
      · have t3 : (a.n != b.n) = false := by simp [h3]
        have HR := Lib.hid (changed_ok h1 h2 h3)
        obtain ⟨N, hN⟩ := Int.eq_ofNat_of_zero_le (show 0 ≤ a.n by have := (right_is h1).2.1; omega)
        have hN2 : N ≤ 1024 := by have := (right_is h1).2.1; omega
        have HN := Lib.hid hN
        have HNb := Lib.hid (show b.n = (N : Int) by rw [← h3]; exact hN)
        have HT := Lib.hid (show a.n.toNat = N by rw [hN]; rfl)
        have hg64 : ∀ q, q < N → I64 (nodeF b q) := fun q hq => by
          have := node_in h2 (k := q) (by rw [HNb.out]; omega)
          unfold I64
          omega
        have Hg := Lib.hid hg64
        obtain ⟨i0, hi0', hz0, hz1, hz2⟩ := pc_info
        have Hz := Lib.hid hz2
        clear hN h3 hg64 hz2
        go_enter Try.func28, Try.ntmps28
        go_wp2_with fail
        generalize ((w.alloc (rmo a A k c)).alloc (rmo b B j d)) = w1 at *
        refine (rright_ _ a A k c hma).mono ?_
        rw [h1]
        rintro e w2 ⟨rfl, hb2⟩
        replace hk1 := hk1.keep hb2
        replace hk2 := hk2.keep hb2
        replace hma := hma.below hb2
        replace hmb := hmb.below hb2
        replace hbx := below_step hbx hb2 (Nat.le_refl _)
        obtain ⟨m0, m1, m2, -, -, -⟩ := cells3 hk2
        clear hb2
        go_wp2_with fail
        refine (rright_ _ b B j d hmb).mono ?_
        rw [h2]
        rintro e w3 ⟨rfl, hb2⟩
        replace hk1 := hk1.keep hb2
        replace hk2 := hk2.keep hb2
        replace hma := hma.below hb2
        replace hmb := hmb.below hb2
        replace hbx := below_step hbx hb2 (Nat.le_refl _)
        clear hb2 m0 m1 m2
        obtain ⟨m0, m1, m2, -, -, -⟩ := cells3 hk2
        obtain ⟨n0, n1, n2, -, -, -⟩ := cells3 hk1
        go_wp2_with fail
        clear m0 m1 m2 n0 n1 n2
        go_loopw [6, 7, 8] (fun vv ov iv wr => ∃ i : Nat, i ≤ N ∧ iv = .int .i64 (i : Int) ∧ ov = .bool (isOpen (nodeF a) (nodeF b) i) ∧ Po wr w3.heap.size vv (chg (nodeF a) (nodeF b) i).length (chg (nodeF a) (nodeF b) i) ∧ Below w3.heap.size w3 wr) (fun _ _ iv _ => N - (intOf iv).toNat)
        case atStart => exact ⟨0, Nat.zero_le _, rfl, rfl, po_nil _ _, Below.refl _ _⟩
        case round =>
          obtain ⟨i, hi, rfl, rfl, hown, hB⟩ := hrel
          have pk1 := hk1.keep hB
          have pk2 := hk2.keep hB
          obtain ⟨n0, n1, n2, -, -, -⟩ := cells3 pk1
          obtain ⟨m0, m1, m2, -, -, -⟩ := cells3 pk2
          by_cases hlt : i < N
          · have hil : (i : Int) < a.n := by rw [HN.out]; omega
            have hilb : (i : Int) < b.n := by rw [HNb.out]; omega
            have hi0 : (0 : Int) ≤ (i : Int) := by omega
            obtain ⟨G, hG⟩ : ∃ G, nodeL (i : Int) b.ps = G := ⟨_, rfl⟩
            obtain ⟨F, hF⟩ : ∃ F, nodeL (i : Int) a.ps = F := ⟨_, rfl⟩
            have hGf : nodeF b i = G := hG
            have hFf : nodeF a i = F := hF
            have hGi : I64 G := by rw [← hGf]; exact Hg.out i hlt
            have hGb := hGi
            unfold I64 at hGb
            obtain ⟨hc1, hc2, hc3, hc4⟩ := chg_last (nodeF a) (nodeF b) i
            have hfit := chg_fit (f := nodeF a) (g := nodeF b) (k := i) (by omega) (fun q hq => Hg.out q (by omega))
            have hos := open_succ (nodeF a) (nodeF b) i
            have hsame := chg_same (f := nodeF a) (g := nodeF b) (k := i)
            have hmore := chg_more (f := nodeF a) (g := nodeF b) (k := i)
            rw [hGf, hFf] at hos hsame hmore
            obtain ⟨l, hl⟩ : ∃ l, chg (nodeF a) (nodeF b) i = l := ⟨_, rfl⟩
            rw [hl] at hown hc1 hc2 hc3 hc4 hfit hsame hmore
            obtain ⟨O, hO⟩ : ∃ O, isOpen (nodeF a) (nodeF b) i = O := ⟨_, rfl⟩
            rw [hO] at hc2 hc3
            rw [hO]
            obtain ⟨L, hL⟩ : ∃ L, l.length = L := ⟨_, rfl⟩
            rw [hL] at hown hc4
            have HG := Lib.hid hG
            have HF := Lib.hid hF
            have HL := Lib.hid hL
            clear hGf hFf hG hF hl hO hL
            have hz3 : L + 1 ≤ maxLen := by unfold maxLen; omega
            have hz4 : (L + 1) * 24 ≤ 140737488355328 := by omega
            have hw1 : IntKind.i64.wrap ((i : Int) + 1) = (i : Int) + 1 := by rw [IntKind.wrap_i64]; omega
            have fq : Fit (⟨(i : Int), (i : Int) + 1, G⟩ : Pc) := ⟨by unfold I64; simp only; omega, by unfold I64; simp only; omega, hGi⟩
            go_wp2_with fail
            refine (rnodeOf_ _ b B j d (hmb.below hB) h2 (i : Int) hi0 hilb).mono ?_
            rw [HG.out]
            rintro e y1 ⟨rfl, hy⟩
            replace hown := own_keep hown hy
            replace hB := below_step hB hy (Nat.le_refl _)
            replace pk1 := pk1.keep hy
            clear hy n0 n1 n2 m0 m1 m2 pk2
            obtain ⟨n0, n1, n2, -, -, -⟩ := cells3 pk1
            go_wp2_with fail
            refine (rnodeOf_ _ a A k c (hma.below hB) h1 (i : Int) hi0 hil).mono ?_
            rw [HF.out]
            rintro e y2 ⟨rfl, hy⟩
            replace hown := own_keep hown hy
            replace hB := below_step hB hy (Nat.le_refl _)
            clear hy n0 n1 n2 pk1
            by_cases he : G = F
            · have te : (F != G) = false := by simp [he]
              have HO := Lib.hid (show isOpen (nodeF a) (nodeF b) (i + 1) = false by rw [hos]; simp [he])
              have hE := hsame he
              have ho5 := po_fix hown
              rw [← hE] at ho5
              obtain ⟨A5, c5, rfl, -, -, -⟩ := own_form hown
              clear he hE hos hsame hmore hc1 hc2 hc3 hfit hown
              go_wp2
              go_roundw
              case rel => exact ⟨i + 1, by omega, by go_num, by rw [HO.out], ho5, hB⟩
              case measure => simp [intOf]; omega
            · have te : (F != G) = true := by simp; exact fun e => he e.symm
              have HO := Lib.hid (show isOpen (nodeF a) (nodeF b) (i + 1) = true by rw [hos]; simp [he])
              have hM := hmore he
              clear he hos hsame hmore
              cases O with
              | false =>
                have HC := Lib.hid (show chg (nodeF a) (nodeF b) (i + 1) = l ++ [⟨(i : Int), (i : Int) + 1, G⟩] by
                  rw [hM]
                  exact push_new fun p y e h => by have := (hc2 p y e).1 h.1; cases this)
                obtain ⟨A5, c5, rfl, -, -, -⟩ := own_form hown
                clear hM hc1 hc2 hc3 hfit
                have hrd := (ps_one (w := y2) fq (g := y2.heap.size) rfl).rd
                have hal : Below y2.heap.size y2 (y2.alloc (.cells #[.int .i64 (i : Int), .int .i64 ((i : Int) + 1), .int .i64 G] 58)) := (Below.refl _ _).alloc (Nat.le_refl _) _
                have hownA := own_keep hown hal
                have hszA := (below_step hB hal (Nat.le_refl _)).size
                have hBA := below_step hB hal (Nat.le_refl _)
                go_wp2_with (first
                  | (at_builtin
                     go_must (refine wpList_app _ rfl (.tmp 68) (.tmp 74) _ rfl w3.heap.size 58 i0 _ 3 24 Try.underlying23 hi0' hz0 hz1 Hz.out rfl (by omega) _ L _ rfl hownA (some ⟨y2.heap.size, 0, none⟩) 1 1 (pvs [⟨(i : Int), (i : Int) + 1, G⟩]) rfl (fun h => by cases h) hrd (pvs_one _) hz3 hz4 hszA ?_)
                     intro v5 w5 hown5 hg5 hat5
                     have hB5 : Below w3.heap.size w3 w5 := hBA.grown hg5 hBA.size (own_from hownA)
                     have ho5 : Po w5 w3.heap.size v5 (chg (nodeF a) (nodeF b) (i + 1)).length (chg (nodeF a) (nodeF b) (i + 1)) := po_fix (po_of hown5 (show pvs l ++ pvs [⟨(i : Int), (i : Int) + 1, G⟩] = pvs (chg (nodeF a) (nodeF b) (i + 1)) by rw [HC.out, pvs_app]))
                     clear hg5 hat5 hown5 hownA hBA hrd hal)
                  | fail)
                go_roundw
                case rel => exact ⟨i + 1, by omega, by go_num, by rw [HO.out], ho5, hB5⟩
                case measure => simp [intOf]; omega
              | true =>
                rcases snoc_cases l with e | ⟨p, y, e⟩
                · exact absurd e (hc3 rfl)
                · have hye := (hc2 p y e).2 rfl
                  subst e
                  obtain ⟨g, cap, rfl, hnc, hcm, hbg, hgl, hnm, c0, c1, c2, fz, hset⟩ := po_upd (l2 := []) hown
                  have hyf := hfit.2.1 y (by simp)
                  obtain ⟨yf, yen, yn⟩ := hyf.all
                  obtain ⟨q, hq⟩ : ∃ q, p.length = q := ⟨_, rfl⟩
                  rw [hq] at hnm c0 c1 c2 hset
                  have hw2 : IntKind.i64.wrap ((L : Int) - 1) = (q : Int) := by rw [IntKind.wrap_i64]; simp at hnm; omega
                  have hq0 : (0 : Int) ≤ (q : Int) := by omega
                  have hqn : (q : Int) < (L : Int) := by simp at hnm; omega
                  have hw3 : IntKind.i64.wrap (y.en + 1) = y.en + 1 := by rw [IntKind.wrap_i64]; omega
                  have f1 := fz (q * 3 + 1)
                  clear hnm hq fz
                  by_cases hn : y.nd = G
                  · have tn : (y.nd == G) = true := by simpa using hn
                    have hs := po_fix (hset 1 (.int .i64 (y.en + 1)) ⟨y.fr, y.en + 1, y.nd⟩ (by omega) rfl)
                    have HC := Lib.hid (show chg (nodeF a) (nodeF b) (i + 1) = p ++ [⟨y.fr, y.en + 1, y.nd⟩] by rw [hM, pushC_snoc, if_pos ⟨hye, hn⟩])
                    have ho5 : Po (y2.setCell ⟨g, q * 3 + 1, none⟩ (.int .i64 (y.en + 1))) w3.heap.size (.slice (some ⟨g, 0, none⟩) L cap) (chg (nodeF a) (nodeF b) (i + 1)).length (chg (nodeF a) (nodeF b) (i + 1)) := by rw [HC.out]; exact po_fix (hset 1 (.int .i64 (y.en + 1)) ⟨y.fr, y.en + 1, y.nd⟩ (by omega) rfl)
                    have hB5 : Below w3.heap.size w3 (y2.setCell ⟨g, q * 3 + 1, none⟩ (.int .i64 (y.en + 1))) := hB.setCell hbg _
                    clear hM hye hn hs hset hc1 hc2 hc3 hfit hown
                    go_wp2
                    go_roundw
                    case rel => exact ⟨i + 1, by omega, by go_num, by rw [HO.out], ho5, hB5⟩
                    case measure => simp [intOf]; omega
                  · have tn : (y.nd == G) = false := by simpa using hn
                    have HC := Lib.hid (show chg (nodeF a) (nodeF b) (i + 1) = (p ++ [y]) ++ [⟨(i : Int), (i : Int) + 1, G⟩] by rw [hM, pushC_snoc, if_neg (fun e => hn e.2)])
                    obtain ⟨l, hl⟩ : ∃ l, p ++ [y] = l := ⟨_, rfl⟩
                    rw [hl] at hown HC
                    clear hM hye hn hset hc1 hc2 hc3 hfit hl
                    have hrd := (ps_one (w := y2) fq (g := y2.heap.size) rfl).rd
                    have hal : Below y2.heap.size y2 (y2.alloc (.cells #[.int .i64 (i : Int), .int .i64 ((i : Int) + 1), .int .i64 G] 58)) := (Below.refl _ _).alloc (Nat.le_refl _) _
                    have hownA := own_keep hown hal
                    have hszA := (below_step hB hal (Nat.le_refl _)).size
                    have hBA := below_step hB hal (Nat.le_refl _)
                    go_wp2_with (first
                      | (at_builtin
                         go_must (refine wpList_app _ rfl (.tmp 68) (.tmp 74) _ rfl w3.heap.size 58 i0 _ 3 24 Try.underlying23 hi0' hz0 hz1 Hz.out rfl (by omega) _ L _ rfl hownA (some ⟨y2.heap.size, 0, none⟩) 1 1 (pvs [⟨(i : Int), (i : Int) + 1, G⟩]) rfl (fun h => by cases h) hrd (pvs_one _) hz3 hz4 hszA ?_)
                         intro v5 w5 hown5 hg5 hat5
                         have hB5 : Below w3.heap.size w3 w5 := hBA.grown hg5 hBA.size (own_from hownA)
                         have ho5 : Po w5 w3.heap.size v5 (chg (nodeF a) (nodeF b) (i + 1)).length (chg (nodeF a) (nodeF b) (i + 1)) := po_fix (po_of hown5 (show pvs l ++ pvs [⟨(i : Int), (i : Int) + 1, G⟩] = pvs (chg (nodeF a) (nodeF b) (i + 1)) by rw [HC.out, pvs_app]))
                         clear hg5 hat5 hown5 hownA hBA hrd hal)
                      | fail)
                    go_roundw
                    case rel => exact ⟨i + 1, by omega, by go_num, by rw [HO.out], ho5, hB5⟩
                    case measure => simp [intOf]; omega
          · have hin : i = N := by omega
            subst hin
            have hil : ¬ (i : Int) < a.n := by rw [HN.out]; omega
            have hfit := chg_fit (f := nodeF a) (g := nodeF b) (k := i) (by omega) (fun q hq => Hg.out q hq)
            obtain ⟨A5, c5, rfl, -, -, -⟩ := own_form hown
            have hps := po_ps hown hfit.2.1
            have Hlen := Lib.hid hfit.2.2
            clear hfit hown
            go_wp2
            go_ret2
            exact ⟨A5, _, c5, by rw [HR.out]; rfl, by rw [HR.out, HT.out]; exact hps, by have := Hlen.out; omega, below_step hbx hB (Nat.le_refl _)⟩
      · have t3 : (a.n != b.n) = true := by simp [h3]
        have HR := Lib.hid (changed_bad (a := a) (b := b) (.inr (.inr h3)))
        clear h3
        go_enter Try.func28, Try.ntmps28
        go_wp2_with fail
        generalize ((w.alloc (rmo a A k c)).alloc (rmo b B j d)) = w1 at *
        refine (rright_ _ a A k c hma).mono ?_
        rw [h1]
        rintro e w2 ⟨rfl, hb2⟩
        replace hk1 := hk1.keep hb2
        replace hk2 := hk2.keep hb2
        replace hma := hma.below hb2
        replace hmb := hmb.below hb2
        replace hbx := below_step hbx hb2 (Nat.le_refl _)
        obtain ⟨m0, m1, m2, -, -, -⟩ := cells3 hk2
        clear hb2
        go_wp2_with fail
        refine (rright_ _ b B j d hmb).mono ?_
        rw [h2]
        rintro e w3 ⟨rfl, hb2⟩
        replace hk1 := hk1.keep hb2
        replace hk2 := hk2.keep hb2
        replace hma := hma.below hb2
        replace hmb := hmb.below hb2
        replace hbx := below_step hbx hb2 (Nat.le_refl _)
        clear hb2 m0 m1 m2
        obtain ⟨m0, m1, m2, -, -, -⟩ := cells3 hk2
        obtain ⟨n0, n1, n2, -, -, -⟩ := cells3 hk1
        go_wp2
        go_ret2
        exact ⟨none, 0, 0, by rw [HR.out]; rfl, by rw [HR.out]; exact Ps.nil, by omega, hbx⟩
end
end Sma
end Go.Proofs.Ytncapionioeieaa
