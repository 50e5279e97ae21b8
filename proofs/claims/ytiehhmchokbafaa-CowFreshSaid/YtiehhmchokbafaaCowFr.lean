/- Layer 7: P7.5: a Put, or a Cut, makes at most 16 times as many fresh nodes as both trees' depths and 2 have together; a tree has no node that it has not, and of the empty one it has none. No condition. -/
import Derived.Test.YtiehhmchokbafaaCowAf
set_option linter.all false
namespace Go.Proofs.Ytiehhmchokbafaa
open Go.ChangeShapes Go.WideShapes Go.ChangeAt Go.RowKit

/-- All nodes are new. -/
def Tr.young : Tr → Tr
  | .nil => .nil
  | .node _ lo x hi => .node true lo.young x hi.young
theorem Tr.young_list : ∀ t : Tr, t.young.list = t.list
  | .nil => rfl
  | .node _ lo x hi => by simp only [Tr.young, Tr.list, Tr.young_list lo, Tr.young_list hi]
theorem Tr.young_size (t : Tr) : t.young.size = t.size := by rw [Tr.size_list, Tr.size_list, Tr.young_list]
theorem Tr.young_deep : ∀ t : Tr, t.young.deep = t.deep
  | .nil => rfl
  | .node _ lo x hi => by simp only [Tr.young, Tr.deep, Tr.young_deep lo, Tr.young_deep hi]
theorem tree_young {w : World} {S : Nat → Prop} : ∀ {t : Tr} {a : Option Addr}, Tree w S a t → Tree w (fun _ => False) a t.young
  | .nil, _, h => h
  | .node _ lo x hi, a, h => by
    obtain ⟨b, al, ah, rfl, h1, h2, h3, h4, h5⟩ := h
    refine ⟨b, al, ah, rfl, ?_, h2, fun e => (by cases e), tree_young h4, tree_young h5⟩
    rw [Tr.young_deep, Tr.young_deep, Tr.young_size, Tr.young_size]
    exact h1
set_option maxRecDepth 100000 in
set_option maxHeartbeats 4000000 in
theorem cowFresh_walk (S : Option Addr) (sn sc : Nat) (l : List ActV) (w : World) (hl : (Shp.slice actShp 48).R w [.slice S sn sc] l) :
    Calls Try.prog 6 #[.slice S sn sc] w fun e w' => e = .returned (.bool true) ∧ Below w.heap.size w w' := by
  obtain ⟨hn1, hn2, hn3⟩ := acts_len hl
  go_enter Try.func6, Try.ntmps6
  go_wp2_with fail
  refine (newF_ w).mono ?_
  rintro e w1 ⟨f, rfl, h1, hb1⟩
  go_wp2_with fail
  refine (alive_ _).mono ?_
  rintro e w2 ⟨rfl, hb2⟩
  have h2 := h1.below hb2
  have hb12 := hb1.trans (hb2.mono hb1.size)
  clear h1 hb1 hb2
  go_wp2_with fail
  refine (short_ S sn sc hn1 hn2 hn3 w2).mono ?_
  rintro e w3 ⟨rfl, rfl⟩
  have hm3 : min sn 300 ≤ 300 := Nat.min_le_right _ _
  have hms : min sn 300 ≤ sn := Nat.min_le_left _ _
  generalize min sn 300 = m at *
  have hstart : ScrF w w2 f [(none, .nil)] 0 := ⟨h2, by simp, hb12⟩
  have hroot0 : ([((none, .nil) : Root)])[0]? = some (none, .nil) := rfl
  clear h2 hb12 hn1 hn2 hn3
  go_wp2_with fail
  go_loopw [19] (fun iv wr => ∃ (k : Nat) (ls : List Root), k ≤ m ∧ iv = .int .i64 (k : Int) ∧ ScrF w wr f ls k ∧ ls[0]? = some (none, .nil)) (fun iv _ => m - (intOf iv).toNat)
  case atStart => exact ⟨0, _, Nat.zero_le _, rfl, hstart, hroot0⟩
  case round =>
    obtain ⟨k, ls, hk, rfl, hS, hr0⟩ := hrel
    clear hstart hroot0
    by_cases hlt : k < m
    · have hil : (k : Int) < (m : Int) := by omega
      obtain ⟨b, o, rfl, kd, r, x, hkd, fr, fx, c0, c1, c2, c3, c4, c5⟩ := acts_later hl hS.below (show k < sn by omega)
      have hact := actA wr kd r x
      have hF := hS.fo.below hact
      have hbw := hS.below.trans (hact.mono hS.below.size)
      have hls := hS.few
      have hdo := does_ _ w.heap.size f ls hF hbw.size (by omega) kd r x hkd fx
      have hbox : Blk (wr.alloc (.cells (actC kd r x) 26)) wr.heap.size 26 (actC kd r x) := Blk.new _ _ _ rfl
      unfold actC at hdo hF hbw hact hbox
      clear hl
      go_wp2_with fail
      refine hdo.mono ?_
      intro e w5 hC
      clear hdo
      rcases hC with ⟨hne, rfl, hb5⟩ | ⟨q, q', hq, hok, rfl, hM⟩
      · have h5 := hF.below hb5
        have hb15 := hbw.trans (hb5.mono hbw.size)
        obtain ⟨er, her⟩ : ∃ er, er = chgE (rootAt ls r) (actOk kd x) := ⟨_, rfl⟩
        rw [← her] at hne ⊢
        have hne2 : (er != 0) = true := by simpa using hne
        clear her hS hact hF hbw hb5 hbox c0 c1 c2 c3 c4 c5
        go_wp2
        go_roundw
        case rel => exact ⟨k + 1, ls, by omega, by go_num, ⟨h5, by omega, hb15⟩, hr0⟩
        case measure => simp [intOf]; omega
      · have h5 := hM.fo
        have hb15 := hbw.trans hM.below
        have hbox5 := hM.ty.block _ _ _ hbox (by unfold FoT; decide)
        have hnew := rootAt_new ls q'
        have hold := rootAt_app hq q'
        have hr0' : (ls ++ [q'])[0]? = some (none, .nil) := by rw [List.getElem?_append_left (by have := hS.fo.least; omega)]; exact hr0
        have hri0 : rootAt (ls ++ [q']) 0 = some (none, .nil) := (rootAt_nat _ 0).trans hr0'
        obtain ⟨-, hbal, hrt⟩ := h5.trees q' (by simp)
        have hsz := size_small hrt
        have hqold := h5.root r
        rw [hold] at hqold
        have hqd := Tr.deep_size q.2
        have hqs := size_small (show rightB q.2.list = true from hqold.2.2)
        have hdz := Tr.deep_size q'.2
        have hmade := hM.made
        have hfresh := hM.fresh
        have hfle := Tr.fresh_le q'.2
        clear hqold hS hact hF hbw hM c0 c1 c2 c3 c4 c5 hq hok hbal hrt hbox
        have hD := fun W (hW : Fo W w.heap.size f (ls ++ [q'])) => deepF_ W w.heap.size f (ls ++ [q']) hW (ls.length : Int)
        have hD0 := fun W (hW : Fo W w.heap.size f (ls ++ [q'])) => deepF_ W w.heap.size f (ls ++ [q']) hW r
        have hZ := fun W (hW : Fo W w.heap.size f (ls ++ [q'])) => sizeF_ W w.heap.size f (ls ++ [q']) hW (ls.length : Int)
        have hF1 := freshF_ w5 w.heap.size f _ h5 r (ls.length : Int) q hold (fun b => Nd w5 b q.1 q.2) q'.2 (fun _ h => h) (by rw [hnew]; exact hmade) (by omega)
        have hF2 := fun W (hW : Fo W w.heap.size f (ls ++ [q'])) => freshF_ W w.heap.size f _ hW (ls.length : Int) (ls.length : Int) q' hnew (fun b => Nd W b q'.1 q'.2) q'.2.olden (fun _ h => h) (by rw [hnew]; exact tree_olden (hW.trees q' (by simp)).1 fun _ h => h) (by rw [Tr.olden_size]; omega)
        have hF3 := fun W (hW : Fo W w.heap.size f (ls ++ [q'])) => freshF_ W w.heap.size f _ hW 0 (ls.length : Int) (none, .nil) hri0 (fun _ => False) q'.2.young (fun _ h => h.elim) (by rw [hnew]; exact tree_young (hW.trees q' (by simp)).1) (by rw [Tr.young_size]; omega)
        simp only [hnew, hold, treeT] at hD hZ hD0
        unfold FreshAns at hF1 hF2 hF3
        simp only [Tr.olden_fresh, Tr.young_size] at hF2 hF3
        generalize q'.2.fresh = n1 at *
        generalize q'.2.deep = d at *
        generalize q'.2.size = z at *
        generalize q.2.deep = d0 at *
        have x1 := hbox5.cell (j := 1) (u := .int .i64 r) rfl
        clear hmade hnew hold hri0
        go_wp2_with fail
        refine hF1.mono ?_
        rintro e w6 ⟨n2, rfl, hk1, -, hb6⟩
        have h6 := h5.below hb6
        have hbox6 := hbox5.keep hb6
        have hb16 := hb15.trans (hb6.mono hb15.size)
        have hn0 : ¬ (n2 : Int) < 0 := by omega
        have hnz : ¬ (z : Int) < (n2 : Int) := by omega
        have hw1 : IntKind.i64.wrap ((d0 : Int) + (d : Int)) = (d0 : Int) + (d : Int) := by rw [IntKind.wrap_i64]; omega
        have hw2 : IntKind.i64.wrap ((d0 : Int) + (d : Int) + 2) = (d0 : Int) + (d : Int) + 2 := by rw [IntKind.wrap_i64]; omega
        have hw3 : IntKind.i64.wrap (16 * ((d0 : Int) + (d : Int) + 2)) = 16 * ((d0 : Int) + (d : Int) + 2) := by rw [IntKind.wrap_i64]; omega
        have hnb : ¬ 16 * ((d0 : Int) + (d : Int) + 2) < (n2 : Int) := by omega
        clear h5 hb15 hb6 hbox5 hF1 x1
        go_wp2_with fail
        refine (hZ w6 h6).mono ?_
        rintro e w7 ⟨rfl, hb7⟩
        have h7 := h6.below hb7
        have hbox7 := hbox6.keep hb7
        have x1 := hbox7.cell (j := 1) (u := .int .i64 r) rfl
        have hb17 := hb16.trans (hb7.mono hb16.size)
        clear h6 hb16 hb7 hbox6
        go_wp2_with fail
        refine (hD0 w7 h7).mono ?_
        rintro e w8 ⟨rfl, hb8⟩
        have h8 := h7.below hb8
        have hb18 := hb17.trans (hb8.mono hb17.size)
        clear h7 hb17 hb8 hbox7 x1
        go_wp2_with fail
        refine (hD w8 h8).mono ?_
        rintro e w9 ⟨rfl, hb9⟩
        have h9 := h8.below hb9
        have hb19 := hb18.trans (hb9.mono hb18.size)
        clear h8 hb18 hb9
        go_wp2_with fail
        refine (hF2 w9 h9).mono ?_
        rintro e w10 ⟨n3, rfl, hk3, -, hb10⟩
        have hn3 : n3 = 0 := by omega
        subst hn3
        have h10 := h9.below hb10
        have hb20 := hb19.trans (hb10.mono hb19.size)
        clear h9 hb19 hb10 hk3
        go_wp2_with fail
        refine (hF3 w10 h10).mono ?_
        rintro e w11 ⟨n4, rfl, -, hk4, hb11⟩
        have hn4 : n4 = z := hk4 trivial
        subst hn4
        have h11 := h10.below hb11
        have hb21 := hb20.trans (hb11.mono hb20.size)
        clear h10 hb20 hb11 hk4
        go_wp2_with fail
        refine (hZ w11 h11).mono ?_
        rintro e w12 ⟨rfl, hb12⟩
        have h12 := h11.below hb12
        have hb22 := hb21.trans (hb12.mono hb21.size)
        clear h11 hb21 hb12 hF2 hF3 hZ hD hD0
        go_wp2
        go_roundw
        case rel => exact ⟨k + 1, ls ++ [q'], by omega, by go_num, ⟨h12, by simp; omega, hb22⟩, hr0'⟩
        case measure => simp [intOf]; omega
    · have hin : (m : Int) ≤ (k : Int) := by omega
      have hb5 := hS.below
      clear hS hr0
      go_wp2
      go_ret
      exact ⟨rfl, hb5⟩
set_option maxRecDepth 100000 in
theorem cowFresh_lifted (os : Os) (started : os.Started) (H : Type) (enc : TypeId × Value → H) :
    ReturnsInHanded {} Try.checked os 6 .any (Rows.cowFreshSpec.pre6 enc Try.prog Try.f6 Rows.cowFreshRow.domain false) (Rows.cowFreshSpec.post enc Try.prog Try.f6 false true false false) := by
  refine law_lifted (C := Try.checked) (tb := 4) own_ started (by kernel_rfl) Try.func6
    (ChangeSpec.witness6 (enc := enc) (C := Try.checked) false ⟨#[], #[.slice none 0 0], []⟩ 8 (by kernel_rfl) (by kernel_rfl) (by kernel_rfl) (by kernel_rfl))
    rfl rfl Try.underlying4 laidOut_ (by kernel_rfl) (fun ds h => by match ds, h with | [_], _ => rfl) ?_
  intro W base args ds p hval0 hA0 _ hsz0
  have hval : ∀ (j : Nat) t v, Try.f6.params[j]? = some t → args[j]? = some v → Value.okWide Try.prog W .any base t v := hval0
  have hA : DataW.TrodAll enc Try.prog W 0 (fun _ => true) true Try.f6.params.toList args.toList ds p := hA0
  have hsz : (DataW.weightsEach Try.prog Try.f6.params.toList ds).all (· ≤ reachBytes) = true := hsz0
  clear hval0 hA0 hsz0
  rw [Try.params6] at hA hval hsz
  obtain ⟨v0, d0, rfl, rfl, h0⟩ := trodAll_one hA
  obtain ⟨A0, n0, c0, xs0, rfl, r0, b0⟩ := arg_slice ops_acts Try.underlying22 (hval 0 _ v0 rfl rfl) h0 (weight_at hsz (j := 0) rfl rfl)
  exact cowFresh_walk A0 n0 c0 xs0 W r0

/-- CowFresh, for every input: the statement as it was given. -/
theorem cowFresh_holds : Rows.CowFreshSaid :=
  OpenClaim.holds_of_wide 6 Try.f6 rfl rfl rfl rfl rfl rfl rfl ⟨rfl, rfl, rfl, rfl, rfl⟩ rfl rfl rfl rfl rfl (by kernel_rfl) Try.func6 (by kernel_rfl)
    (of_decide_eq_true (by kernel_rfl)) (by unfold Func.isWrapper; first | (rw [if_pos (by decide +kernel)]; kernel_rfl) | (rw [if_neg (by decide +kernel)]; exact ⟨rfl, rfl⟩))
    (fun os started H enc _ => cowFresh_lifted os started H enc)
end Go.Proofs.Ytiehhmchokbafaa
