/- Proves AllocFirst of layer 5 (alloc), for every input, with no condition: no row of as many free units begins ahead of the one that is taken; what is refused for want of room has none. -/
import Derived.Test.YtlkhlbieiogahaaAlcL
import Derived.Deep.DeepCutAuto
import Derived.Deep.CutBlock
namespace Go.Proofs.Ytlkhlbieiogahaa
open Go.ChangeShapes Go.WideShapes Go.ChangeAt Go.RowKit Go.Maps

theorem info_bool : (Try.prog.info? 4).map (fun i => (i.zero, i.size, i.bytes)) = some (some (.bool false), 1, 1) := by kernel_rfl
/-- How a script's walk stands: an allocator, a row of its own, and what was there. -/
structure FstAt (w w' : World) (g q N : Nat) : Prop where
  al : ∃ c, Al w' g N c
  fr : ∃ v, Blk w' q 4 (rowA N v)
  below : Below w.heap.size w w'
theorem FstAt.step {w w6 wA : World} {g q N : Nat} {c : Nat → Int} (hfr : ∃ v, Blk w6 q 4 (rowA N v)) (hB : Below w.heap.size w w6) (h0 : w.heap.size ≤ g) (hq : g + 1 < q) (hA : Al wA g N c) (htA : Tn g (g + 1) w6 wA) : FstAt w wA g q N :=
  ⟨⟨c, hA⟩, by obtain ⟨v, hv⟩ := hfr; exact ⟨v, htA.blk hv (by omega)⟩, hB.trans (htA.below h0 hB.size)⟩
theorem free_settled {N : Nat} {c : Nat → Int} (h : Rng N c) {i : Nat} (hi : i < N) : (countR N (settleC N c) (i : Int) = 0) ↔ settleC N c i = 0 := by
  have := h i hi
  unfold countR
  rw [if_neg (by omega), Int.toNat_natCast]
  have h2 : 0 ≤ settleC N c i := by
    unfold settleC upd settleF
    rw [if_pos (by omega)]
    split <;> omega
  omega

set_option maxRecDepth 100000 in
set_option maxHeartbeats 1000000 in
theorem allocFirst_bad (z m : Int) (S : Option Addr) (sn sc : Nat) (w : World) (hz : ¬ (1 ≤ z ∧ z ≤ 4096)) :
    Calls Try.prog 8 #[.int .i64 z, .slice S sn sc, .int .i64 m] w fun e w' => e = .returned (.bool true) ∧ Below w.heap.size w w' := by
  go_enter Try.func8, Try.ntmps8
  go_wp2_with fail
  refine (new_bad z _ hz).mono ?_
  rintro e w' ⟨rfl, rfl⟩
  go_wp2_with fail
  refine (alive_ _).mono ?_
  rintro e w5 ⟨rfl, hb5⟩
  go_wp2
  go_ret
  exact ⟨rfl, hb5⟩

set_option maxRecDepth 100000 in
set_option maxHeartbeats 4000000 in
theorem allocFirst_good (n : Nat) (S : Option Addr) (sn sc : Nat) (l : List ActV) (p : Int) (w : World) (h1 : 0 < n) (h2 : n ≤ 4096)
    (hl : (Shp.slice actShp 24).R w [.slice S sn sc] l) (hsn : sn ≤ 9223372036854775807) (hp : -9223372036854775808 ≤ p ∧ p ≤ 9223372036854775807) :
    Calls Try.prog 8 #[.int .i64 (n : Int), .slice S sn sc, .int .i64 p] w fun e w' => e = .returned (.bool true) ∧ Below w.heap.size w w' := by
  obtain ⟨i0, hi0, hz0, hz1, hz2⟩ := parts_of info_bool
  have Hz := Lib.hid hz2
  clear hz2
  go_enter Try.func8, Try.ntmps8
  go_wp2_with fail
  refine (new_ n w h1 h2).mono ?_
  rintro e w1 ⟨g, rfl, hg, k1, hb1⟩
  go_wp2_with fail
  refine (alive_ _).mono ?_
  rintro e w5 ⟨rfl, hb5⟩
  have h5 := k1.below hb5
  have hB5 : Below w.heap.size w w5 := hb1.trans (hb5.mono hb1.size)
  have h0 : w.heap.size ≤ g := by omega
  clear hb1 hb5 k1 hg
  have hgl := h5.lt
  go_wp2_with (first
    | (at_make
       refine wpList_make_blk _ rfl _ _ 28 rfl 4 i0 _ 1 1 Try.underlying28 hi0 hz0 hz1 Hz.out .i64 .i64 _ _ n rfl rfl rfl rfl (by omega) (by omega) ?_
       intro w6 hk6 hb6 hs6)
    | fail)
  rw [Nat.mul_one, show (Value.bool false).cells = #[.bool false] from rfl, made_rowA] at hk6
  have h6 : FstAt w w6 g w5.heap.size n := ⟨⟨_, h5.below hb6⟩, ⟨_, hk6⟩, hB5.trans (hb6.mono hB5.size)⟩
  have hq : g + 1 < w5.heap.size := hgl
  clear h5 hB5 hk6 hb6 hs6 hgl
  generalize w5.heap.size = q at *
  go_loopw [38] (fun iv wr => ∃ i : Nat, i ≤ n ∧ iv = .int .i64 (i : Int) ∧ FstAt w wr g q n) (fun iv _ => n - (intOf iv).toNat)
  case atStart => exact ⟨0, Nat.zero_le _, rfl, h6⟩
  case round =>
    obtain ⟨i, hi, rfl, ⟨c, hA⟩, ⟨v, hv⟩, hB⟩ := hrel
    clear h6
    by_cases hlt : i < n
    · have hil : (i : Int) < (n : Int) := by omega
      have hc := hv.cell (rowA_at v hlt)
      have hf := hv.free i
      have hvs := hv.setCell i (.bool true)
      rw [rowA_set] at hvs
      have ht : Tn q (q + 1) wr (wr.setCell ⟨q, i, none⟩ (.bool true)) := Tn.set _ _ _ (Nat.le_refl _) (Nat.lt_succ_self _)
      go_wp2
      go_roundw
      case rel => exact ⟨i + 1, by omega, by go_num, ⟨_, hA.tn ht (by omega)⟩, ⟨_, hvs⟩, hB.trans (ht.below (by omega) hB.size)⟩
      case measure => simp [intOf]; omega
    · have hin : (n : Int) ≤ (i : Int) := by omega
      have h7 : FstAt w wr g q n := ⟨⟨c, hA⟩, ⟨v, hv⟩, hB⟩
      clear hA hv hB
      go_wp2_with fail
      go_loopw [47] (fun iv wr => ∃ k : Nat, k ≤ sn ∧ iv = .int .i64 (k : Int) ∧ FstAt w wr g q n) (fun iv _ => sn - (intOf iv).toNat)
      case atStart => exact ⟨0, Nat.zero_le _, rfl, h7⟩
      case round =>
        obtain ⟨k, hk, rfl, ⟨c, hA⟩, hfr, hb⟩ := hrel
        clear h7
        have hbs := hb.size
        by_cases hlt : k < sn
        · obtain ⟨b, o, rfl, kd, f, m, hkd, hf, hm, e0, e1, e2⟩ := acts_later hl hb hlt
          have hkl : (k : Int) < (sn : Int) := by omega
          have el := cell_lt e0
          have hb' : Below wr.heap.size wr (wr.alloc (.cells #[.int .u8 (kd : Int), .int .i64 f, .int .i64 m] 35)) := (Below.refl _ _).alloc (Nat.le_refl _) _
          have hac := Blk.new wr 35 #[.int .u8 (kd : Int), .int .i64 f, .int .i64 m] rfl
          have hA6 := hA.below hb'
          have hB6 := hb.trans (hb'.mono hbs)
          have hfr6 : ∃ v, Blk (wr.alloc (.cells #[.int .u8 (kd : Int), .int .i64 f, .int .i64 m] 35)) q 4 (rowA n v) := by obtain ⟨v, hv⟩ := hfr; exact ⟨v, hv.keep hb'⟩
          clear hl hb' hb hfr
          go_upto_block 4 with fail
          clear e0 e1 e2 el hA
          have hnw : w.heap.size ≤ wr.heap.size := hbs
          generalize wr.alloc (.cells #[.int .u8 (kd : Int), .int .i64 f, .int .i64 m] 35) = w6 at *
          generalize wr.heap.size = d at *
          have a0 := hac.cell (j := 0) (u := .int .u8 (kd : Int)) rfl
          have a1 := hac.cell (j := 1) (u := .int .i64 f) rfl
          have a2 := hac.cell (j := 2) (u := .int .i64 m) rfl
          have kk : 0 ≤ (kd : Int) := by omega
          have hcs : kd % 4 = 0 ∨ kd % 4 = 1 ∨ kd % 4 = 2 ∨ kd % 4 = 3 := by omega
          rcases hcs with e | e | e | e
          all_goals
            have q4 := mod4 e
            clear e
          · go_wp2_with fail
            refine (take_ g n c _ m hA6 hm).mono ?_
            rintro e wA ⟨rfl, hA, htA⟩
            have hst := FstAt.step hfr6 hB6 h0 hq hA htA
            clear hA htA hfr6 hB6 a0 a1 a2 hac
            go_wp2
            go_roundw
            case rel => exact ⟨k + 1, by omega, by go_num, hst⟩
            case measure => simp [intOf]; omega
          · go_wp2_with fail
            refine (share_ g n c _ f m hA6 hf hm).mono ?_
            rintro e wA ⟨rfl, hA, htA⟩
            have hst := FstAt.step hfr6 hB6 h0 hq hA htA
            clear hA htA hfr6 hB6 a0 a1 a2 hac
            go_wp2
            go_roundw
            case rel => exact ⟨k + 1, by omega, by go_num, hst⟩
            case measure => simp [intOf]; omega
          · go_wp2_with fail
            refine (drop_ g n c _ f m hA6 hf hm).mono ?_
            rintro e wA ⟨rfl, hA, htA⟩
            have hst := FstAt.step hfr6 hB6 h0 hq hA htA
            clear hA htA hfr6 hB6 a0 a1 a2 hac
            go_wp2
            go_roundw
            case rel => exact ⟨k + 1, by omega, by go_num, hst⟩
            case measure => simp [intOf]; omega
          · go_wp2_with fail
            refine (settle_ g n c _ hA6).mono ?_
            rintro e wA ⟨rfl, hA, htA⟩
            have hst := FstAt.step hfr6 hB6 h0 hq hA htA
            clear hA htA hfr6 hB6 a0 a1 a2 hac
            go_wp2
            go_roundw
            case rel => exact ⟨k + 1, by omega, by go_num, hst⟩
            case measure => simp [intOf]; omega
        · have hkl : (sn : Int) ≤ (k : Int) := by omega
          clear hl
          go_wp2_with fail
          refine (settle_ g n c wr hA).mono ?_
          rintro e w8 ⟨rfl, h8, ht8⟩
          have hB8 := hb.trans (ht8.below h0 hb.size)
          obtain ⟨v, hv⟩ := hfr
          have hv8 := ht8.blk hv (by omega)
          have hrc := hA.rng
          clear hA hv hb ht8
          go_wp2_with fail
          go_loopw [83] (fun iv wr => ∃ i : Nat, i ≤ n ∧ iv = .int .i64 (i : Int) ∧ Al wr g n (settleC n c) ∧ (∃ v, Blk wr q 4 (rowA n v) ∧ ∀ j, j < i → v j = .bool (decide (settleC n c j = 0))) ∧ Below w.heap.size w wr) (fun iv _ => n - (intOf iv).toNat)
          case atStart => exact ⟨0, Nat.zero_le _, rfl, h8, ⟨v, hv8, fun j hj => by omega⟩, hB8⟩
          case round =>
            obtain ⟨i, hi, rfl, hA, ⟨v, hv, hvj⟩, hB⟩ := hrel
            clear h8 hv8 hB8
            have Hj := Lib.hid hvj
            clear hvj
            by_cases hlt : i < n
            · have hil : (i : Int) < (n : Int) := by omega
              have hc := hv.cell (rowA_at v hlt)
              have hf := hv.free i
              have hvs := hv.setCell i (.bool (decide (settleC n c i = 0)))
              rw [rowA_set] at hvs
              have ht : Tn q (q + 1) wr (wr.setCell ⟨q, i, none⟩ (.bool (decide (settleC n c i = 0)))) := Tn.set _ _ _ (Nat.le_refl _) (Nat.lt_succ_self _)
              have hst : (countR n (settleC n c) (i : Int) == 0) = decide (settleC n c i = 0) := by
                have := free_settled hrc hlt
                by_cases e : settleC n c i = 0
                · rw [decide_eq_true e]; simpa using this.2 e
                · rw [decide_eq_false e]; simpa using mt this.1 e
              have Hst := Lib.hid hst
              clear hst
              go_wp2_with fail
              refine (count_ g n _ wr i hA).mono ?_
              rintro e w' ⟨rfl, rfl⟩
              have hst := Hst.out
              go_wp2
              go_roundw
              case rel => exact ⟨i + 1, by omega, by go_num, hA.tn ht (by omega), ⟨_, hvs, fun j hj => by
                by_cases e : j = i
                · subst e; simp
                · simp only [if_neg e]; exact Hj.out j (by omega)⟩, hB.trans (ht.below (by omega) hB.size)⟩
              case measure => simp [intOf]; omega
            · have hin : (n : Int) ≤ (i : Int) := by omega
              have he : i = n := by omega
              rw [he] at Hj
              clear he
              by_cases p1 : p < 1
              · have Ht := Lib.hid (show (takeR n (settleC n c) p).1 = 0 ∧ (takeR n (settleC n c) p).2.1 = 1 by unfold takeR; rw [if_pos p1]; exact ⟨rfl, rfl⟩)
                go_wp2_with fail
                refine (take_ g n _ wr p hA hp).mono ?_
                rw [Ht.out.1, Ht.out.2]
                rintro e w9 ⟨rfl, h9, ht9⟩
                have hB9 := hB.trans (ht9.below h0 hB.size)
                go_wp2
                go_ret
                exact ⟨rfl, hB9⟩
              · obtain ⟨p, rfl⟩ := Int.eq_ofNat_of_zero_le (show 0 ≤ p by omega)
                have Ht1 := Lib.hid (show ∀ z, hit (settleC n c) p n = some z → (takeR n (settleC n c) p).1 = (z : Int) + 1 - (p : Int) ∧ (takeR n (settleC n c) p).2.1 = 0 from fun z hh => by unfold takeR; rw [if_neg p1, Int.toNat_natCast, hh]; exact ⟨rfl, rfl⟩)
                have Ht2 := Lib.hid (show hit (settleC n c) p n = none → (takeR n (settleC n c) p).2.1 = 7 from fun hh => by unfold takeR; rw [if_neg p1, Int.toNat_natCast, hh])
                go_wp2_with fail
                refine (take_ g n _ wr p hA hp).mono ?_
                generalize (takeR n (settleC n c) p).1 = F at *
                generalize (takeR n (settleC n c) p).2.1 = E at *
                rintro e w9 ⟨rfl, h9, ht9⟩
                have hB9 := hB.trans (ht9.below h0 hB.size)
                have hv9 := ht9.blk hv (by omega)
                clear hB ht9 hv hA h9
                generalize settleC n c = c' at *
                go_wp2_with fail
                go_loopw [16, 106] (fun rv iv wr => ∃ i : Nat, i ≤ n ∧ iv = .int .i64 (i : Int) ∧ rv = .int .i64 ((long c' i : Nat) : Int) ∧ hit c' p i = none ∧ w9 = wr) (fun _ iv _ => n - (intOf iv).toNat)
                case atStart => exact ⟨0, Nat.zero_le _, rfl, rfl, rfl, rfl⟩
                case round =>
                  obtain ⟨i, hi, rfl, rfl, hh, rfl⟩ := hrel
                  by_cases hlt : i < n
                  · have hil : (i : Int) < (n : Int) := by omega
                    have hll := long_le c' i
                    have hc := hv9.cell (rowA_at v hlt)
                    rw [Hj.out i hlt] at hc
                    have hw1 : IntKind.i64.wrap (((long c' i : Nat) : Int) + 1) = ((long c' i + 1 : Nat) : Int) := by rw [IntKind.wrap_i64]; omega
                    by_cases hx : c' i = 0
                    · have hl : long c' (i + 1) = long c' i + 1 := by simp [long, hx]
                      rw [decide_eq_true hx] at hc
                      by_cases he : long c' i + 1 = p
                      · obtain ⟨hF, hE⟩ := Ht1.out i (hit_now hh (hl.trans he) hlt)
                        have hen : (((long c' i : Nat) : Int) + 1 == (p : Int)) = true := by simpa using (by omega : ((long c' i : Nat) : Int) + 1 = (p : Int))
                        have hE' : (E == 0) = true := by simpa using hE
                        have hF' : (F == (i : Int) - (p : Int) + 1) = true := by simpa using (by omega : F = (i : Int) - (p : Int) + 1)
                        have hFs := Lib.hid hF
                        clear hh hl he hx hF hE hw1
                        generalize long c' i = L at *
                        go_wp2
                        go_ret
                        exact ⟨rfl, hB9⟩
                      · have Hh := Lib.hid (hit_next hh (by rw [hl]; exact he))
                        have Hl := Lib.hid hl
                        have hen : (((long c' i : Nat) : Int) + 1 == (p : Int)) = false := by simpa using (by omega : ¬ ((long c' i : Nat) : Int) + 1 = (p : Int))
                        clear hh hl he hx hw1
                        generalize long c' i = L at *
                        go_wp2
                        go_roundw
                        case rel => exact ⟨i + 1, by omega, by go_num, by rw [Hl.out]; rfl, Hh.out, trivial⟩
                        case measure => simp [intOf]; omega
                    · have hl : long c' (i + 1) = 0 := by simp [long, hx]
                      rw [decide_eq_false hx] at hc
                      have Hh := Lib.hid (hit_next hh (by rw [hl]; omega))
                      have Hl := Lib.hid hl
                      have hen : ((0 : Int) == (p : Int)) = false := by simpa using (by omega : ¬ (0 : Int) = (p : Int))
                      clear hh hl hx hw1
                      generalize long c' i = L at *
                      go_wp2
                      go_roundw
                      case rel => exact ⟨i + 1, by omega, by go_num, by rw [Hl.out]; rfl, Hh.out, trivial⟩
                      case measure => simp [intOf]; omega
                  · have hin : (n : Int) ≤ (i : Int) := by omega
                    have he : i = n := by omega
                    rw [he] at hh
                    have hE := Ht2.out hh
                    have hE' : (E == 7) = true := by simpa using hE
                    clear hh he hE
                    generalize long c' i = L at *
                    go_wp2
                    go_ret
                    exact ⟨rfl, hB9⟩

theorem allocFirst_walk (z m : Int) (S : Option Addr) (sn sc : Nat) (l : List ActV) (w : World) (hl : (Shp.slice actShp 24).R w [.slice S sn sc] l) (hm : -9223372036854775808 ≤ m ∧ m ≤ 9223372036854775807) :
    Calls Try.prog 8 #[.int .i64 z, .slice S sn sc, .int .i64 m] w fun e w' => e = .returned (.bool true) ∧ Below w.heap.size w w' := by
  by_cases hz : 1 ≤ z ∧ z ≤ 4096
  · obtain ⟨n, rfl⟩ := Int.eq_ofNat_of_zero_le (show 0 ≤ z by omega)
    exact allocFirst_good n S sn sc l m w (by omega) (by omega) hl (acts_len hl) hm
  · exact allocFirst_bad z m S sn sc w hz

set_option maxRecDepth 100000 in
theorem allocFirst_lifted (os : Os) (started : os.Started) (H : Type) (enc : TypeId × Value → H) :
    ReturnsInHanded {} Try.checked os 8 .any (Rows.allocFirstSpec.pre6 enc Try.prog Try.f8 Rows.allocFirstRow.domain false) (Rows.allocFirstSpec.post enc Try.prog Try.f8 false true false false) := by
  refine law_lifted (C := Try.checked) (tb := 4) own_ started (by kernel_rfl) Try.func8
    (ChangeSpec.witness6 (enc := enc) (C := Try.checked) false ⟨#[], #[.int .i64 0, .slice none 0 0, .int .i64 0], []⟩ 8 (by kernel_rfl) (by kernel_rfl) (by kernel_rfl) (by kernel_rfl))
    rfl rfl Try.underlying4 laidOut_ (by kernel_rfl) (fun ds h => by match ds, h with | [_, _, _], _ => rfl) ?_
  intro W base args ds p hval0 hA0 _ hsz0
  have hval : ∀ (j : Nat) t v, Try.f8.params[j]? = some t → args[j]? = some v → Value.okWide Try.prog W .any base t v := hval0
  have hA : DataW.TrodAll enc Try.prog W 0 (fun _ => true) true Try.f8.params.toList args.toList ds p := hA0
  have hsz : (DataW.weightsEach Try.prog Try.f8.params.toList ds).all (· ≤ reachBytes) = true := hsz0
  clear hval0 hA0 hsz0
  rw [Try.params8] at hA hval hsz
  obtain ⟨v0, v1, v2, d0, d1, d2, p0, p1, p2, rfl, rfl, rfl, h0, h1, h2⟩ := trodAll_three hA
  obtain ⟨z0, rfl, hz0⟩ := arg_int _ _ Try.underlying3 (hval 0 _ v0 rfl rfl) h0 wf_i64
  obtain ⟨A1, n1, c1, xs1, rfl, r1, b1⟩ := arg_slice ops_acts Try.underlying22 (hval 1 _ v1 rfl rfl) h1 (weight_at hsz (j := 1) rfl rfl)
  obtain ⟨z2, rfl, hz2⟩ := arg_int _ _ Try.underlying3 (hval 2 _ v2 rfl rfl) h2 wf_i64
  exact allocFirst_walk z0 z2 A1 n1 c1 xs1 W r1 hz2

/-- AllocFirst, for every input: the statement as it was given. -/
theorem allocFirst_holds : Rows.AllocFirstSaid :=
  OpenClaim.holds_of_wide 8 Try.f8 rfl rfl rfl rfl rfl rfl rfl ⟨rfl, rfl, rfl, rfl, rfl⟩ rfl rfl rfl rfl rfl (by kernel_rfl) Try.func8 (by kernel_rfl)
    (of_decide_eq_true (by kernel_rfl)) (by unfold Func.isWrapper; first | (rw [if_pos (by decide +kernel)]; kernel_rfl) | (rw [if_neg (by decide +kernel)]; exact ⟨rfl, rfl⟩))
    (fun os started H enc _ => allocFirst_lifted os started H enc)
end Go.Proofs.Ytlkhlbieiogahaa
