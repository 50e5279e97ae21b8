/- Proves ShardFrozen of layer 12 (shard), for every input, with no condition: while a shard is frozen nothing turns what it has now, but a Crash. -/
import Derived.Test.YtfcfffilfmbpeaaShaR
set_option linter.all false
namespace Go.Proofs.Ytfcfffilfmbpeaa
open Go.ChangeShapes Go.WideShapes Go.ChangeAt Go.RowKit
namespace Sha
open Blo (vol fun_ GotN AnsN Dat FitB words_)

theorem frz_keeps {s : SS} (h : s.frz = true) (a : Actn) (h2 : a.kd % 8 ≠ 2) (h6 : a.kd % 8 ≠ 6) : (actS s a).frz = true ∧ (actS s a).now = s.now ∧ (actE s a = 0 → a.kd % 8 ≠ 0 ∧ a.kd % 8 ≠ 5) := by
  have hcases : a.kd % 8 = 0 ∨ a.kd % 8 = 1 ∨ a.kd % 8 = 3 ∨ a.kd % 8 = 4 ∨ a.kd % 8 = 5 ∨ a.kd % 8 = 7 := by omega
  rcases hcases with e | e | e | e | e | e
  · obtain ⟨e1, e2⟩ := act_0 (s := s) e
    obtain ⟨d1, d2⟩ := doS_frz h a.op
    rw [e1, e2, d2]
    exact ⟨h, rfl, fun q => absurd q d1⟩
  · obtain ⟨e1, e2⟩ := act_1 (s := s) e
    rw [e1]
    exact ⟨h, rfl, fun _ => by omega⟩
  · obtain ⟨e1, e2⟩ := act_3 (s := s) e
    rw [e1]
    exact ⟨(snS_now s a.id).2.trans h, (snS_now s a.id).1, fun _ => by omega⟩
  · obtain ⟨e1, e2⟩ := act_4 (s := s) e
    rw [e1]
    exact ⟨h, rfl, fun _ => by omega⟩
  · obtain ⟨e1, e2⟩ := act_5 (s := s) e
    obtain ⟨d1, d2⟩ := roS_frz h a.id
    rw [e1, e2, d2]
    exact ⟨h, rfl, fun q => absurd q d1⟩
  · obtain ⟨e1, e2⟩ := act_7 (s := s) e
    rw [e1]
    exact ⟨h, rfl, fun _ => by omega⟩
def FzA (w wr : World) (b N : Nat) : Prop := ∃ U s, Run w wr b U s ∧ s.n = N
def FzB (w wr : World) (b N : Nat) (A : Option Addr) (m c : Nat) (v : List Nat) : Prop := ∃ U s, Run w wr b U s ∧ s.n = N ∧ s.frz = true ∧ s.now = v ∧ Kept wr U A m c v
set_option maxRecDepth 100000 in
set_option maxHeartbeats 8000000 in
theorem shardFrozen_walk (w : World) (z : Int) (S1 : Option Addr) (n1 c1 : Nat) (l1 : List ActV) (S2 : Option Addr) (n2 c2 : Nat) (l2 : List ActV) (h1 : (Shp.slice actShp 96).R w [.slice S1 n1 c1] l1) (h2 : (Shp.slice actShp 96).R w [.slice S2 n2 c2] l2) :
    Calls Try.prog 6 #[.int .i64 z, .slice S1 n1 c1, .slice S2 n2 c2] w fun e w' => e = .returned (.bool true) ∧ Below w.heap.size w w' := by
  have hn1 := acts_len h1
  have hn2 := acts_len h2
  obtain ⟨N, hN, hN63⟩ := and63 z
  go_enter Try.func6, Try.ntmps6
  go_wp2_with fail
  refine (new_ w N (by omega)).mono ?_
  rintro e w1 ⟨b, rfl, hS1, hB1⟩
  go_wp2_with fail
  refine (alive_ _).mono ?_
  rintro e w2 ⟨rfl, hb2⟩
  have hA0 : FzA w w2 b N := ⟨_, newS N, (Run.mk hS1 hB1).below hb2, rfl⟩
  clear hS1 hB1 hb2 hN
  go_wp2_with fail
  go_loopw [37] (fun iv wr => ∃ k : Nat, k ≤ n1 ∧ iv = .int .i64 (k : Int) ∧ FzA w wr b N) (fun iv _ => n1 - (intOf iv).toNat)
  case atStart => exact ⟨0, Nat.zero_le _, rfl, hA0⟩
  case round =>
    obtain ⟨k, hk, rfl, U, s, hR, hsn⟩ := hrel
    by_cases hlt : k < n1
    · have hil : (k : Int) < (n1 : Int) := by omega
      have hk0 : (0 : Int) ≤ (k : Int) := by omega
      obtain ⟨bs, os, X, m, cc, K, kn, kc, a, rfl, hcell, hAat⟩ := acts_later h1 hR.bel hlt
      have q0 := hcell 0 _ rfl
      have q1 := hcell 1 _ rfl
      have q2 := hcell 2 _ rfl
      have q3 := hcell 3 _ rfl
      have q4 := hcell 4 _ rfl
      have q5 := hcell 5 _ rfl
      have q6 := hcell 6 _ rfl
      have q7 := hcell 7 _ rfl
      rw [Nat.add_zero] at q0
      obtain ⟨hbv, hvar⟩ := act_var wr a X m cc K kn kc
      have hdo := hR.does hbv hAat
      have hRv := hR.below hbv
      have hsn2 := (actS_n s a).trans hsn
      clear hcell
      simp only [actC] at hdo hbv hvar hRv
      go_wp2_with fail
      refine hdo.mono ?_
      rintro e w5 ⟨rfl, hNx⟩
      have hnext : FzA w w5 b N := ⟨_, _, hRv.next hNx, hsn2⟩
      clear hdo hNx hRv hR
      go_wp2
      go_roundw
      case rel => exact ⟨k + 1, by omega, by go_num, hnext⟩
      case measure => simp [intOf]; omega
    · have hin : (n1 : Int) ≤ (k : Int) := by omega
      have hfz := freeze_ wr w.heap.size b U s true hR.sh
      clear hA0
      go_wp2_with fail
      refine hfz.mono ?_
      rintro e w3 ⟨rfl, hN3⟩
      have hR3 := hR.next hN3
      obtain ⟨s3, hs3⟩ : ∃ s3, ({ s with frz := true } : SS) = s3 := ⟨_, rfl⟩
      have hsn3 : s3.n = N := by rw [← hs3]; exact hsn
      have hfz3 : s3.frz = true := by rw [← hs3]
      rw [hs3] at hR3
      have hrd := hR3.read hsn3
      clear hfz hN3 hR hs3 hsn
      go_wp2_with fail
      refine hrd.mono ?_
      rintro e w4 ⟨A4, m4, c4, rfl, hG4, hb4⟩
      have hR4 := hR3.below hb4
      have hK4 : Kept w4 (gr U wr w3) A4 m4 c4 s3.now := Kept.of (w := w) hG4 (fun j hj => (hR3.sh.ulow j hj).2)
      obtain ⟨v, hv⟩ : ∃ v, s3.now = v := ⟨_, rfl⟩
      rw [hv] at hK4
      have hm4 : m4 ≤ 9223372036854775807 := by have := hG4.bounds; omega
      have hB0 : FzB w w4 b N A4 m4 c4 v := ⟨_, s3, hR4, hsn3, hfz3, hv, hK4⟩
      clear hrd hR3 hG4 hb4 hR4 hK4 hfz3 hsn3 hv
      go_wp2_with fail
      go_loopw [55] (fun iv wr => ∃ k : Nat, k ≤ n2 ∧ iv = .int .i64 (k : Int) ∧ FzB w wr b N A4 m4 c4 v) (fun iv _ => n2 - (intOf iv).toNat)
      case atStart => exact ⟨0, Nat.zero_le _, rfl, hB0⟩
      case round =>
        obtain ⟨k, hk, rfl, U, s, hR, hsn, hfz, hv, hK⟩ := hrel
        by_cases hlt : k < n2
        · have hil : (k : Int) < (n2 : Int) := by omega
          have hk0 : (0 : Int) ≤ (k : Int) := by omega
          obtain ⟨bs, os, X, m, cc, K, kn, kc, a, rfl, hcell, hAat⟩ := acts_later h2 hR.bel hlt
          have q0 := hcell 0 _ rfl
          have q1 := hcell 1 _ rfl
          have q2 := hcell 2 _ rfl
          have q3 := hcell 3 _ rfl
          have q4 := hcell 4 _ rfl
          have q5 := hcell 5 _ rfl
          have q6 := hcell 6 _ rfl
          have q7 := hcell 7 _ rfl
          rw [Nat.add_zero] at q0
          obtain ⟨hbv, hvar⟩ := act_var wr a X m cc K kn kc
          have hdo := hR.does hbv hAat
          have hRv := hR.below hbv
          have hKv := hK.below hbv
          have hkd := (hAat w (Below.refl _ _)).kd
          have hsn2 := (actS_n s a).trans hsn
          have hvU : ¬ U wr.heap.size := fun e => by have := (hR.sh.ulow _ e).2; omega
          clear hcell
          simp only [actC] at hdo hbv hvar hRv hKv
          have v0 := hvar.cell (j := 0) (u := .int .u8 (a.kd : Int)) rfl
          by_cases hk26 : a.kd % 8 = 2 ∨ a.kd % 8 = 6
          · have hnext : FzB w _ b N A4 m4 c4 v := ⟨U, s, hRv, hsn, hfz, hv, hKv⟩
            clear hdo hRv hKv hK hR hbv
            rcases hk26 with hr | hr
            · have q := kd_test hr
              clear hr hsn2
              go_wp2
              go_roundw
              case rel => exact ⟨k + 1, by omega, by go_num, hnext⟩
              case measure => simp [intOf]; omega
            · have q := kd_test hr
              clear hr hsn2
              go_wp2
              go_roundw
              case rel => exact ⟨k + 1, by omega, by go_num, hnext⟩
              case measure => simp [intOf]; omega
          · have hne2 : a.kd % 8 ≠ 2 := fun e => hk26 (.inl e)
            have hne6 : a.kd % 8 ≠ 6 := fun e => hk26 (.inr e)
            obtain ⟨f1, f2, f3⟩ := frz_keeps hfz a hne2 hne6
            have g2 : ((a.kd : Int) % 8 == 2) = false := by simp; omega
            have g6 : ((a.kd : Int) % 8 == 6) = false := by simp; omega
            go_wp2_with fail
            refine hdo.mono ?_
            rintro e w5 ⟨rfl, hNx⟩
            have hR5 := hRv.next hNx
            have hK5 := hKv.next hNx.fr
            have hv5 := hNx.fr.blk _ _ _ hvar hvU fot_act
            have v5 := hv5.cell (j := 0) (u := .int .u8 (a.kd : Int)) rfl
            generalize hge : actE s a = ge at *
            generalize hgs : actS s a = gs at *
            have hrd := hR5.read hsn2
            clear hdo hNx hRv hKv hR hK hgs hge
            go_wp2_with fail
            refine hrd.mono ?_
            rintro e w6 ⟨A6, m6, c6, rfl, hG6, hb6⟩
            have hR6 := hR5.below hb6
            have hK6 := hK5.below hb6
            have v6 := (hv5.keep hb6).cell (j := 0) (u := .int .u8 (a.kd : Int)) rfl
            have hfr := frozen_ w6 w.heap.size b _ gs hR6.sh
            rw [f1] at hfr
            rw [f2, hv] at hG6
            have hw := words_ w6 A4 A6 m4 m6 c4 c6 v v hK6.ns hG6.ns hm4
            rw [decide_eq_true (rfl : v = v)] at hw
            clear hrd hR5 hK5 hb6 v5
            go_wp2_with fail
            refine hfr.mono ?_
            rintro e w7 ⟨rfl, rfl⟩
            go_wp2_with fail
            refine hw.mono ?_
            rintro e w8 ⟨rfl, j8, rfl⟩
            have hnext : FzB w (w6.drewN j8) b N A4 m4 c4 v := ⟨_, gs, hR6.below (below_drewN (Below.refl _ _) j8), hsn2, f1, f2.trans hv, hK6.below (below_drewN (Below.refl _ _) j8)⟩
            clear hfr hw hR6 hK6 hG6
            by_cases hz : ge = 0
            · obtain ⟨k1, k2⟩ := f3 hz
              have g0 : ((a.kd : Int) % 8 == 0) = false := by simp; omega
              have g5 : ((a.kd : Int) % 8 == 5) = false := by simp; omega
              have hzb : (ge == 0) = true := by simp [hz]
              clear f3 k1 k2 hne2 hne6 hk26 hz
              go_wp2
              go_roundw
              case rel => exact ⟨k + 1, by omega, by go_num, hnext⟩
              case measure => simp [intOf]; omega
            · have hzb : (ge == 0) = false := by simp [hz]
              clear f3 hne2 hne6 hk26
              go_wp2
              go_roundw
              case rel => exact ⟨k + 1, by omega, by go_num, hnext⟩
              case measure => simp [intOf]; omega
        · have hin : (n2 : Int) ≤ (k : Int) := by omega
          have hfin := hR.bel
          go_wp2
          go_ret
          exact ⟨rfl, hfin⟩
end Sha
open Sha

set_option maxRecDepth 100000 in
theorem shardFrozen_lifted (os : Os) (started : os.Started) (H : Type) (enc : TypeId × Value → H) :
    ReturnsInHanded {} Try.checked os 6 .any (Rows.shardFrozenSpec.pre6 enc Try.prog Try.f6 Rows.shardFrozenRow.domain false) (Rows.shardFrozenSpec.post enc Try.prog Try.f6 false true false false) := by
  refine law_lifted (C := Try.checked) (tb := 4) own_ started (by kernel_rfl) Try.func6
    (ChangeSpec.witness6 (enc := enc) (C := Try.checked) false ⟨#[], #[.int .i64 0, .slice none 0 0, .slice none 0 0], []⟩ 8 (by kernel_rfl) (by kernel_rfl) (by kernel_rfl) (by kernel_rfl))
    rfl rfl Try.underlying4 laidOut_ (by kernel_rfl) (fun ds h => by match ds, h with | [_, _, _], _ => rfl) ?_
  intro W base args ds p hval0 hA0 _ hsz0
  have hval : ∀ (j : Nat) t v, Try.f6.params[j]? = some t → args[j]? = some v → Value.okWide Try.prog W .any base t v := hval0
  have hA : DataW.TrodAll enc Try.prog W 0 (fun _ => true) true Try.f6.params.toList args.toList ds p := hA0
  have hsz : (DataW.weightsEach Try.prog Try.f6.params.toList ds).all (· ≤ reachBytes) = true := hsz0
  clear hval0 hA0 hsz0
  rw [Try.params6] at hA hval hsz
  obtain ⟨v0, v1, v2, d0, d1, d2, p0, p1, p2, rfl, rfl, rfl, h0, h1, h2⟩ := trodAll_three hA
  obtain ⟨z0, rfl, hz0⟩ := arg_int _ _ Try.underlying3 (hval 0 _ v0 rfl rfl) h0 wf_i64
  obtain ⟨A1, n1, c1, xs1, rfl, r1, b1⟩ := arg_slice ops_acts Try.underlying22 (hval 1 _ v1 rfl rfl) h1 (weight_at hsz (j := 1) rfl rfl)
  obtain ⟨A2, n2, c2, xs2, rfl, r2, b2⟩ := arg_slice ops_acts Try.underlying22 (hval 2 _ v2 rfl rfl) h2 (weight_at hsz (j := 2) rfl rfl)
  exact shardFrozen_walk W z0 A1 n1 c1 xs1 A2 n2 c2 xs2 r1 r2

/-- ShardFrozen, for every input: the statement as it was given. -/
theorem shardFrozen_holds : Rows.ShardFrozenSaid :=
  OpenClaim.holds_of_wide 6 Try.f6 rfl rfl rfl rfl rfl rfl rfl ⟨rfl, rfl, rfl, rfl, rfl⟩ rfl rfl rfl rfl rfl (by kernel_rfl) Try.func6 (by kernel_rfl)
    (of_decide_eq_true (by kernel_rfl)) (by unfold Func.isWrapper; first | (rw [if_pos (by decide +kernel)]; kernel_rfl) | (rw [if_neg (by decide +kernel)]; exact ⟨rfl, rfl⟩))
    (fun os started H enc _ => shardFrozen_lifted os started H enc)
end Go.Proofs.Ytfcfffilfmbpeaa
