/- Layer 7: P7.1, P7.4: trees of many extents, put in any order, have the list of all, and are as deep as they may be. No condition. -/
import Derived.Test.YtiehhmchokbafaaCowMa
import Derived.Laws.StructEq
set_option linter.all false
namespace Go.Proofs.Ytiehhmchokbafaa
open Go.ChangeShapes Go.WideShapes Go.ChangeAt Go.RowKit

theorem FoT.want : ¬ FoT 59 := by unfold FoT; decide
/-- Where the first loop stands. -/
structure Many (w wr : World) (f gw : Nat) (ls : List Root) (rt : Nat) (s : Nat → Bool) : Prop where
  fo : Fo wr w.heap.size f ls
  root : ∃ q, ls[rt]? = some q ∧ q.2.list = lones s
  want : Blk wr gw 59 (rowA 512 (wantV s))
  below : Below w.heap.size w wr
  new : w.heap.size ≤ gw
set_option maxRecDepth 100000 in
set_option maxHeartbeats 8000000 in
theorem cowMany_walk (S : Option Addr) (sn sc : Nat) (l : List Nat) (w : World) (hl : (Shp.slice (Shp.nat .u16 65536) 2).R w [.slice S sn sc] l) :
    Calls Try.prog 7 #[.slice S sn sc] w fun e w' => e = .returned (.bool true) ∧ Below w.heap.size w w' := by
  obtain ⟨hn1, hn2, hn3⟩ := u16s_len hl
  obtain ⟨iw, hiw, zw, hzw, hcw⟩ := want_info
  go_enter Try.func7, Try.ntmps7
  go_wp2_with fail
  refine (newF_ w).mono ?_
  rintro e w1 ⟨f, rfl, h1, hb1⟩
  go_wp2_with fail
  refine (alive_ _).mono ?_
  rintro e w2 ⟨rfl, hb2⟩
  have h2 := h1.below hb2
  have hb12 := hb1.trans (hb2.mono hb1.size)
  clear h1 hb1 hb2
  have hmin : min (sn : Int) 600 = ((min sn 600 : Nat) : Int) := by omega
  have hmc : ((min sn 600 : Nat) : Int) ≤ (sc : Int) := by omega
  have hmc2 : min sn 600 ≤ sc := by omega
  have hm3 : min sn 600 ≤ 600 := Nat.min_le_right _ _
  have hms : min sn 600 ≤ sn := Nat.min_le_left _ _
  generalize min sn 600 = m at *
  go_wp2_with (first
    | (refine wpList_alloc_blk _ rfl 59 rfl iw _ hiw hzw ?_
       intro w3 hk3 hb3 hs3)
    | fail)
  rw [hcw] at hk3
  have hstart : Many w w3 f w2.heap.size [(none, .nil)] 0 (fun _ => false) :=
    ⟨h2.below hb3, ⟨_, rfl, by rw [lones_none]; rfl⟩, hk3, hb12.trans (hb3.mono hb12.size), hb12.size⟩
  generalize w2.heap.size = gw at *
  clear hk3 hb3 hs3 h2 hb12 hcw
  go_loopw [4, 30] (fun rv iv wr => ∃ (k : Nat) (ls : List Root) (rt : Nat) (s : Nat → Bool), k ≤ m ∧ iv = .int .i64 (k : Int) ∧ rv = .int .i64 (rt : Int) ∧ ls.length ≤ k + 1 ∧ Many w wr f gw ls rt s) (fun _ iv _ => m - (intOf iv).toNat)
  case atStart => exact ⟨0, _, 0, _, Nat.zero_le _, rfl, rfl, by simp, hstart⟩
  case round =>
    obtain ⟨k, ls, rt, s, hk, rfl, rfl, hls, hM⟩ := hrel
    clear hstart
    by_cases hlt : k < m
    · have hil : (k : Int) < (m : Int) := by omega
      obtain ⟨b, o, rfl, v, hv, c0⟩ := u16s_later hl hM.below (show k < sn by omega)
      obtain ⟨a, hae⟩ : ∃ a : Nat, a = v % 512 := ⟨_, rfl⟩
      have ha : a < 512 := by omega
      have hmod : ((v : Int)).tmod 512 = (a : Int) := by rw [Int.tmod_eq_emod_of_nonneg (by omega)]; omega
      have hmod2 : ((v : Int)) % 512 = (a : Int) := by omega
      have hw2 : IntKind.i64.wrap (2 * (a : Int)) = 2 * (a : Int) := by rw [IntKind.wrap_i64]; omega
      have hw3 : IntKind.i64.wrap (3 * (a : Int)) = 3 * (a : Int) := by rw [IntKind.wrap_i64]; omega
      have haI : (a : Int) < 512 := by omega
      have ha0 : (0 : Int) ≤ (a : Int) := by omega
      obtain ⟨q, hq, hql⟩ := hM.root
      have hput := putF_ wr w.heap.size f ls hM.fo hM.below.size (by omega) (rt : Int) (lone a) (fit_of (lone_may ha))
      unfold lone at hput
      simp only at hput
      clear hl hae
      go_wp2_with fail
      refine hput.mono ?_
      intro e w5 hC
      obtain ⟨q', rfl, hN⟩ := Chg.done hC ((rootAt_nat ls rt).trans hq) (lone_may ha)
      have hql' : q'.2.list = lones (fun b => if b = a then true else s b) := by rw [hN.list, hql]; exact lones_put s ha
      have hw5 := hN.ty.block _ _ _ hM.want FoT.want
      have hfo5 := hN.fo
      have hb5 := hM.below.trans hN.below
      have hls2 : (ls ++ [q']).length ≤ k + 1 + 1 := by simp; omega
      have hnq : (ls ++ [q'])[ls.length]? = some q' := by rw [List.getElem?_append_right (Nat.le_refl _), Nat.sub_self]; rfl
      have hgB : w.heap.size ≤ gw := hM.new
      have f5 := hw5.free a
      have d5 := hw5.cell (j := a) (u := .bool (s a)) (rowA_at _ ha)
      have hty : Ty (fun t => t = 59) w5 (w5.setCell ⟨gw, a, none⟩ (.bool true)) := Ty.set (T := fun t => t = 59) hw5 rfl a _
      have hset := hw5.setCell a (.bool true)
      rw [rowA_set] at hset
      have hrow : rowA 512 (fun i => if i = a then Value.bool true else wantV s i) = rowA 512 (wantV fun b => if b = a then true else s b) := rowA_congr fun j _ => by
        unfold wantV
        by_cases e : j = a
        · simp [e]
        · simp [e]
      rw [hrow] at hset
      have hM9 : Many w (w5.setCell ⟨gw, a, none⟩ (.bool true)) f gw (ls ++ [q']) ls.length (fun b => if b = a then true else s b) :=
        ⟨hfo5.ty hty (by decide) (by decide) (by decide), ⟨q', hnq, hql'⟩, hset, hb5.setCell hgB _, hgB⟩
      clear hC hput hM hN hw5 hfo5 hb5 hset hrow hty hql hql' hnq c0 hmod hmod2
      go_wp2
      go_roundw
      case rel => exact ⟨k + 1, ls ++ [q'], ls.length, _, by omega, by go_num, rfl, hls2, hM9⟩
      case measure => simp [intOf]; omega
    · have hin : (m : Int) ≤ (k : Int) := by omega
      obtain ⟨q, hq, hql⟩ := hM.root
      have hroot := (rootAt_nat ls rt).trans hq
      have hD := fun W (hW : Fo W w.heap.size f ls) => deepF_ W w.heap.size f ls hW (rt : Int)
      simp only [hroot, treeT] at hD
      obtain ⟨-, hbal, hrt⟩ := hM.fo.trees q (List.mem_of_getElem? hq)
      have hdp := Tr.not_deep hbal
      have hqz := Tr.size_list q.2
      have hlen := lones_len s
      clear hl
      go_wp2_with fail
      refine (listF_ wr w.heap.size f _ hM.fo (rt : Int) q hroot).mono ?_
      rw [hql]
      rintro e w5 ⟨A5, m5, c5, rfl, g5, hb5⟩
      have e5 := g5.es
      have z5 := g5.le
      have hm5 := e5.len
      have hfo5 := hM.fo.below hb5
      have hw5 := hM.want.keep hb5
      have hbb5 := hM.below.trans (hb5.mono hM.below.size)
      rw [hqz, hql, ← hm5] at hdp
      have hmle : m5 ≤ 1024 := by rw [hm5]; exact right_short (lones_right s)
      rw [← hm5] at hlen
      have HL := Lib.hid hlen
      have hnd : ¬ ((deepest m5 : Nat) : Int) < ((q.2.deep : Nat) : Int) := by omega
      generalize q.2.deep = d at *
      clear g5 hM hdp hqz hql hlen hm5 hbal hrt hb5
      go_wp2_with fail
      refine (hD w5 hfo5).mono ?_
      rintro e w6 ⟨rfl, hb6⟩
      replace e5 := e5.below hb6
      replace hw5 := hw5.keep hb6
      replace hbb5 := hbb5.trans (hb6.mono hbb5.size)
      clear hD hfo5 hb6
      go_wp2_with fail
      refine (deepest_ m5 (by omega) w6).mono ?_
      rintro e w7 ⟨rfl, rfl⟩
      go_wp2_with (first
        | (refine wpList_load_mid rfl 59 _ rfl gw 0 rfl (rowA 512 (wantV s)).toList _ (hw5.range (fun j v hv => by rw [Nat.zero_add]; simpa using hv)) Try.underlying59 rfl (by rw [size_want, Array.length_toList, size_rowA]) ?_
           rw [Array.toArray_toList])
        | fail)
      go_loopw [13, 72] (fun kv iv wx => ∃ i : Nat, i ≤ 512 ∧ iv = .int .i64 (i : Int) ∧ kv = .int .i64 ((aheadOf s i : Nat) : Int) ∧ w6 = wx) (fun _ iv _ => 512 - (intOf iv).toNat)
      case atStart => exact ⟨0, Nat.zero_le _, rfl, rfl, rfl⟩
      case round =>
        obtain ⟨i, hi, rfl, rfl, rfl⟩ := hrel
        by_cases hlt2 : i < 512
        · have hiI : (i : Int) < 512 := by omega
          have hi0 : (0 : Int) ≤ (i : Int) := by omega
          have hix := fun W => want_index W s i hlt2
          have hst := ahead_step s i
          cases hs : s i with
          | false =>
            rw [hs] at hix
            have Hst := Lib.hid (show aheadOf s (i + 1) = aheadOf s i by rw [hst, hs]; rfl)
            generalize aheadOf s i = ah at *
            clear hst
            go_wp2
            go_roundw
            case rel => exact ⟨i + 1, by omega, by go_num, by rw [Hst.out], trivial⟩
            case measure => simp [intOf]; omega
          | true =>
            rw [hs] at hix
            have Hst := Lib.hid (show aheadOf s (i + 1) = aheadOf s i + 1 by rw [hst, hs]; rfl)
            have hmo := ahead_mono s (show i + 1 ≤ 512 by omega)
            have hal : aheadOf s i < m5 := by have := HL.out; have := Hst.out; omega
            have hat := lones_at_ s hlt2 hs
            generalize aheadOf s i = ah at *
            obtain ⟨pb, po, rfl, x, hx, fx, x0, x1, x2, x3⟩ := e5.at_ hal
            rw [hat] at hx
            injection hx with hx
            subst hx
            unfold lone at x0 x1 x2 x3
            simp only at x0 x1 x2 x3
            have hahI : (ah : Int) < (m5 : Int) := by omega
            have hge : decide ((m5 : Int) ≤ (ah : Int)) = false := decide_eq_false (by omega)
            have hw2 : IntKind.i64.wrap (2 * (i : Int)) = 2 * (i : Int) := by rw [IntKind.wrap_i64]; omega
            have hw3 : IntKind.i64.wrap (3 * (i : Int)) = 3 * (i : Int) := by rw [IntKind.wrap_i64]; omega
            have hqq := fun W => neq_ext (2 * (i : Int)) 1 (3 * (i : Int)) 0 W
            clear hst hmo hat
            go_wp2
            go_roundw
            case rel => exact ⟨i + 1, by omega, by go_num, by rw [Hst.out]; go_num, trivial⟩
            case measure => simp [intOf]; omega
        · have hii : (512 : Int) ≤ (i : Int) := by omega
          have he : i = 512 := by omega
          have Ha := Lib.hid (show aheadOf s i = m5 by rw [he, HL.out])
          clear he
          rw [Ha.out]
          go_wp2
          go_ret
          exact ⟨by simp, hbb5⟩
set_option maxRecDepth 100000 in
theorem cowMany_lifted (os : Os) (started : os.Started) (H : Type) (enc : TypeId × Value → H) :
    ReturnsInHanded {} Try.checked os 7 .any (Rows.cowManySpec.pre6 enc Try.prog Try.f7 Rows.cowManyRow.domain false) (Rows.cowManySpec.post enc Try.prog Try.f7 false true false false) := by
  refine law_lifted (C := Try.checked) (tb := 4) own_ started (by kernel_rfl) Try.func7
    (ChangeSpec.witness6 (enc := enc) (C := Try.checked) false ⟨#[], #[.slice none 0 0], []⟩ 8 (by kernel_rfl) (by kernel_rfl) (by kernel_rfl) (by kernel_rfl))
    rfl rfl Try.underlying4 laidOut_ (by kernel_rfl) (fun ds h => by match ds, h with | [_], _ => rfl) ?_
  intro W base args ds p hval0 hA0 _ hsz0
  have hval : ∀ (j : Nat) t v, Try.f7.params[j]? = some t → args[j]? = some v → Value.okWide Try.prog W .any base t v := hval0
  have hA : DataW.TrodAll enc Try.prog W 0 (fun _ => true) true Try.f7.params.toList args.toList ds p := hA0
  have hsz : (DataW.weightsEach Try.prog Try.f7.params.toList ds).all (· ≤ reachBytes) = true := hsz0
  clear hval0 hA0 hsz0
  rw [Try.params7] at hA hval hsz
  obtain ⟨v0, d0, rfl, rfl, h0⟩ := trodAll_one hA
  obtain ⟨A0, n0, c0, xs0, rfl, r0, b0⟩ := arg_slice ops_u16s Try.underlying58 (hval 0 _ v0 rfl rfl) h0 (weight_at hsz (j := 0) rfl rfl)
  exact cowMany_walk A0 n0 c0 xs0 W r0

/-- CowMany, for every input: the statement as it was given. -/
theorem cowMany_holds : Rows.CowManySaid :=
  OpenClaim.holds_of_wide 7 Try.f7 rfl rfl rfl rfl rfl rfl rfl ⟨rfl, rfl, rfl, rfl, rfl⟩ rfl rfl rfl rfl rfl (by kernel_rfl) Try.func7 (by kernel_rfl)
    (of_decide_eq_true (by kernel_rfl)) (by unfold Func.isWrapper; first | (rw [if_pos (by decide +kernel)]; kernel_rfl) | (rw [if_neg (by decide +kernel)]; exact ⟨rfl, rfl⟩))
    (fun os started H enc _ => cowMany_lifted os started H enc)
end Go.Proofs.Ytiehhmchokbafaa
