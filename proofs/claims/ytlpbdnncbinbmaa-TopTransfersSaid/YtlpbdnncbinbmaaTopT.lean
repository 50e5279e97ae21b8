/- Proves TopTransfers (through the layers, stage 4), for every input, with no condition: two places of a log between which amounts are moved, in changes of both, have the same sum for ever, whenever the power goes off, and whichever sectors are kept. -/
import Derived.Test.YtlpbdnncbinbmaaTopA
import Derived.BigQuiet
namespace Go.Proofs.Ytlpbdnncbinbmaa
open Go.ChangeShapes Go.WideShapes Go.ChangeAt Go.RowKit Go.Maps

abbrev u8O (z : Int) : Obj := .cells #[.int .u8 z] 5
abbrev twO (X Y : Nat) : Obj := .cells #[.int .i64 0, .slice (some ⟨X, 0, none⟩) 1 1, .int .i64 2, .slice (some ⟨Y, 0, none⟩) 1 1] 67
theorem bs_u8 (w : World) (a : UInt8) {z : Int} (hz : z = (a.toNat : Int)) {g : Nat} (hg : g = w.heap.size) : Bs (w.alloc (u8O z)) (some ⟨g, 0, none⟩) 1 [a] := by
  subst hg hz
  exact Bs.new w [a] 5 (0, 0)
/-- The two updates, their bytes made one behind the other. -/
theorem uss_tw (w : World) (lo hi : Nat) (a b : UInt8) {x y : Int} (hx : x = (a.toNat : Int)) (hy : y = (b.toNat : Int)) (hhi : hi ≤ w.heap.size) :
    Uss (((w.alloc (u8O x)).alloc (u8O y)).alloc (twO w.heap.size (w.heap.size + 1))) lo hi (some ⟨w.heap.size + 1 + 1, 0, none⟩) 2 [(0, [a]), (2, [b])] := by
  have h1 := (bs_u8 w a hx rfl).alloc (u8O y)
  have h2 := bs_u8 (w.alloc (u8O x)) b hy (g := w.heap.size + 1) (by simp)
  have := Uss.two (t := 67) (a := 0) (b := 2) (lo := lo) (hi := hi) h1 (fun e => by cases e) (Nat.le_refl 1) (by unfold maxLen; omega) (fun p hp _ => by injection hp with hp; subst hp; exact .inr hhi) h2 (fun e => by cases e) (Nat.le_refl 1) (by unfold maxLen; omega) (fun p hp _ => by injection hp with hp; subst hp; exact .inr (by show hi ≤ w.heap.size + 1; omega)) (by simp; omega)
  simpa using this
theorem uss_wt (w : World) (lo hi : Nat) (a b : UInt8) {x y : Int} (hx : x = (a.toNat : Int)) (hy : y = (b.toNat : Int)) (hhi : hi ≤ w.heap.size) :
    Uss (((w.alloc (u8O y)).alloc (u8O x)).alloc (twO (w.heap.size + 1) w.heap.size)) lo hi (some ⟨w.heap.size + 1 + 1, 0, none⟩) 2 [(0, [a]), (2, [b])] := by
  have h1 := bs_u8 (w.alloc (u8O y)) a hx (g := w.heap.size + 1) (by simp)
  have h2 := (bs_u8 w b hy rfl).alloc (u8O x)
  have := Uss.two (t := 67) (a := 0) (b := 2) (lo := lo) (hi := hi) h1 (fun e => by cases e) (Nat.le_refl 1) (by unfold maxLen; omega) (fun p hp _ => by injection hp with hp; subst hp; exact .inr (by show hi ≤ w.heap.size + 1; omega)) h2 (fun e => by cases e) (Nat.le_refl 1) (by unfold maxLen; omega) (fun p hp _ => by injection hp with hp; subst hp; exact .inr hhi) (by simp; omega)
  simpa using this
theorem wrap8 (z : Int) : IntKind.u8.wrap z = z % 256 := by unfold IntKind.wrap; rfl
theorem cell_alloc {w : World} {p : Addr} {u : Value} (h : w.cell? p = some u) (o : Obj) : (w.alloc o).cell? p = some u := (((Below.refl w.heap.size w).alloc (Nat.le_refl _) o).cell (cell_lt h)).trans h
/-- What a Commit of such a change leaves: a log with the same sum. -/
theorem comm_inv {s : DS} {t n : Nat} {P : Nat → List UInt8} {a b : UInt8} {E : Nat} {s' : DS} {n' : Nat} (hs : St s t n P) (hP : Inv P) (hn : s.n = 12) (ht : t + 2 ≤ topN) (hnt : n + 1 ≤ topN) (hab : (a.toNat + b.toNat) % 256 = 255) (hfz : Fz s s') (h : Comm s t n P [(0, [a]), (2, [b])] E s' n') :
    Rec (fun m Q => m ≤ n + 1 ∧ Inv Q) 12 (t + 2) s' ∧ (s.fuse < 0 → E = 0 ∧ n' = n + 1 ∧ ∃ t', t' ≤ t + 2 ∧ St s' t' (n + 1) (doneP [(0, [a]), (2, [b])] P)) := by
  have hr0 : rightE (s.n - 9) [(0, [a]), (2, [b])] = 0 := rightE_two (by omega) (by rw [hn]; decide) (by simp) (by omega) (by rw [hn]; decide) (by simp) (by decide)
  have hs' : s'.n = 12 := hfz.n.trans hn
  obtain ⟨hr, _⟩ | ⟨_, rfl, rfl, t', ht', hst'⟩ | ⟨_, _, _, hf, hrec⟩ := h
  · exact absurd hr0 hr
  · refine ⟨?_, fun _ => ⟨rfl, rfl, t', ht', hst'⟩⟩
    have := hst'.rec_ (K := fun m Q => m ≤ n + 1 ∧ Inv Q) ht' hnt ⟨Nat.le_refl _, inv_done P a b hab⟩
    rwa [hs'] at this
  · refine ⟨fun keep => ?_, fun h => by omega⟩
    obtain ⟨t', m, Q, h1, h2, h3, h4⟩ := hrec keep
    rw [hn] at h4
    rcases h3 with ⟨rfl, rfl⟩ | ⟨rfl, rfl⟩
    · exact ⟨t', m, Q, h1, h2, ⟨by omega, hP⟩, h4⟩
    · exact ⟨t', _, _, h1, h2, ⟨Nat.le_refl _, inv_done P a b hab⟩, h4⟩
theorem inv_zero : (200 + 55) % 256 = 255 := rfl

set_option maxRecDepth 100000 in
set_option maxHeartbeats 4000000 in
theorem topTransfers_walk (A : Option Addr) (n c : Nat) (mv : List UInt8) (S : Option Addr) (ln lc : Nat) (ls : List LossV) (w : World) (hm : Bs w A n mv) (hA : A = none → n = 0 ∧ c = 0) (hnc : n ≤ c) (hc : c ≤ 140737488351232) (hS : (Shp.slice lossShp 32).R w [.slice S ln lc] ls) :
    Calls Try.prog 9 #[.slice A n c, .slice S ln lc] w fun e w' => e = .returned (.bool true) ∧ Below w.heap.size w w' := by
  have hln := loss_len hS
  have hmb := rd_block hm
  go_enter Try.func9, Try.ntmps9
  go_wp2_with fail
  refine (new_ 12 w (by omega) (by omega)).mono ?_
  rintro e wa ⟨g, rfl, hg, hda, hba⟩
  go_wp2_with fail
  refine (logs_ wa).mono ?_
  rintro e wc ⟨rfl, hbc⟩
  have hdc := hda.below hbc
  have hBc := hba.trans (hbc.mono hba.size)
  go_wp2_with fail
  refine (format_ g (DS.fresh 12) wc hdc (by decide) (bare_fresh 12)).mono ?_
  rintro e wb ⟨sb, hdb, hfzb, htb, hF⟩
  have hfb := hfzb.fuse (show (DS.fresh 12).fuse < 0 by show (-1 : Int) < 0; decide)
  have hnb : sb.n = 12 := hfzb.n
  obtain ⟨t', ht', rfl, hst⟩ | ⟨_, hf, _⟩ := hF
  rotate_left
  · exact absurd hf (by show ¬ (0 : Int) ≤ -1; decide)
  have hBb : Below w.heap.size w wb := hBc.trans (htb.below (by omega) hBc.size)
  go_wp2_with fail
  refine (open_log g sb t' 0 zeroP wb hdb (by omega) hst.up hst.jn (by unfold topN; omega) (by decide)).mono ?_
  rintro e w1 ⟨s1, hd1, hfz1, ht1, hO⟩
  have hf1 : s1.fuse = -1 := (hfz1.fuse (by rw [hfb]; show (-1 : Int) < 0; decide)).trans hfb
  have hn1 : s1.n = 12 := hfz1.n.trans hnb
  obtain ⟨b, t1, hle, hle2, rfl, hb, hst1, hL1⟩ | ⟨_, hf, _⟩ := hO
  rotate_left
  · rw [hfb] at hf; exact absurd hf (by show ¬ (0 : Int) ≤ -1; decide)
  have hb1 : Below w.heap.size w w1 := hBb.trans (ht1.below (by omega) (by have := hBb.size; omega))
  have hbl := hL1.blt
  have hblt := hL1.lt
  clear hda hdb hba hbc hdc hBb htb ht1 hd1 hst hBc
  have hgw : w.heap.size ≤ g := by omega
  have hU := uss_tw w1 g (b + 1) 200 55 (x := 200) (y := 55) rfl rfl (by omega)
  have hLk := ((hL1.alloc (u8O 200)).alloc (u8O 55)).alloc (twO w1.heap.size (w1.heap.size + 1))
  have hz1 := hb1.size
  have hB1 : Below w.heap.size w (((w1.alloc (u8O 200)).alloc (u8O 55)).alloc (twO w1.heap.size (w1.heap.size + 1))) := by go_grown
  have hzz : w1.heap.size + 3 = (((w1.alloc (u8O 200)).alloc (u8O 55)).alloc (twO w1.heap.size (w1.heap.size + 1))).heap.size := by simp
  go_wp2_with fail
  refine (commit_any g b s1 t1 0 zeroP _ 2 2 _ _ hLk hst1 hU (by omega) (by unfold topN; omega) (by decide)).mono ?_
  generalize (((w1.alloc (u8O 200)).alloc (u8O 55)).alloc (twO w1.heap.size (w1.heap.size + 1))) = wd at *
  rintro e w2 ⟨E, s2, n2, rfl, hfz2, hT2, hL2, hC⟩
  have hn2 : s2.n = 12 := hfz2.n.trans hn1
  have hf2 := (hfz2.fuse (by omega)).trans hf1
  have hB2 : Below w.heap.size w w2 := hB1.trans (hT2.below hgw (by omega) (by omega))
  have hci : E = 0 ∧ n2 = 1 ∧ ∃ t', t' ≤ t1 + 2 ∧ ∃ Q, Inv Q ∧ St s2 t' 1 Q := by
    have hr0 : rightE (s1.n - 9) [(0, [200]), (2, [55])] = 0 := rightE_two (by omega) (by rw [hn1]; decide) (by simp) (by omega) (by rw [hn1]; decide) (by simp) (by decide)
    obtain ⟨hr, _⟩ | ⟨_, rfl, rfl, t', ht', hst'⟩ | ⟨_, _, _, hf, _⟩ := hC
    · exact absurd hr0 hr
    · exact ⟨rfl, rfl, t', ht', _, inv_done zeroP 200 55 (by decide), hst'⟩
    · omega
  obtain ⟨rfl, rfl, t2, ht2, Q2, hI2, hst2⟩ := hci
  clear hC hU hLk hB1 hT2 hL1 hst1
  obtain ⟨q, hq, hqm, hmn⟩ : ∃ q : Nat, min (n : Int) 60 = (q : Int) ∧ q ≤ n ∧ q ≤ 60 := by
    by_cases h : n ≤ 60
    · exact ⟨n, by omega, Nat.le_refl _, h⟩
    · exact ⟨60, by omega, by omega, Nat.le_refl _⟩
  have hqi : (q : Int) ≤ (c : Int) := by omega
  have hk62 : (n : Int) ≤ 140737488351232 := by omega
  go_wp2_with fail
  go_loopw [61, 7] (fun i v wr => ∃ j : Nat, j ≤ q ∧ i = .int .i64 (j : Int) ∧ ∃ b s t nl P, v = .pointer (some ⟨b, 0, none⟩) ∧ Lk wr g b s nl ∧ St s t nl P ∧ Inv P ∧ s.fuse = -1 ∧ s.n = 12 ∧ t ≤ 10 + 10 * j ∧ nl ≤ 10 + j ∧ w.heap.size ≤ b ∧ Below w.heap.size w wr) (fun i _ _ => q - (intOf i).toNat)
  case atStart => exact ⟨0, Nat.zero_le _, rfl, b, s2, t2, 1, Q2, rfl, hL2, hst2, hI2, hf2, hn2, by omega, by omega, by omega, hB2⟩
  case round =>
    clear hL2 hst2 hI2 hf2 hn2 hB2 hbl hblt
    obtain ⟨j, hj, rfl, b, s, t, nl, P, rfl, hL, hst, hI, hf, hsn, htj, hnl, hbw, hB⟩ := hrel
    have hz := hB.size
    by_cases hlt : j < q
    · obtain ⟨mb, mo, rfl, hx, hcm0⟩ := hm.at_ (show j < n by omega)
      have hcm : wr.cell? ⟨mb, mo + j, none⟩ = _ := (hB.cell (cell_lt hcm0)).trans hcm0
      obtain ⟨a0, b0, ⟨ra, hra⟩, ⟨rb, hrb⟩, hab⟩ := hI
      have hbl := hL.blt
      have hblt := hL.lt
      have hjq : (j : Int) < (q : Int) := by omega
      obtain ⟨mz, hmz⟩ : ∃ mz, mv[j] = mz := ⟨_, rfl⟩
      rw [hmz] at hcm
      clear hcm0 hmz
      go_wp2_with fail
      refine (lread_ g b s t nl 0 P wr hL hst (by unfold topN; omega) (by unfold topN; omega) (by omega)).mono ?_
      rintro e w3 ⟨qa, rfl, hqa, hka, hL3, ht3⟩
      have hB3 := hB.trans (ht3.below (by omega) (by omega))
      have hz3 := ht3.size
      go_wp2_with fail
      refine (lread_ g b s t nl 2 P w3 hL3 hst (by unfold topN; omega) (by unfold topN; omega) (by omega)).mono ?_
      rintro e w4 ⟨qb, rfl, hqb, hkb, hL4, ht4⟩
      have hB4 := hB3.trans (ht4.below (by omega) (by omega))
      have hz4 := ht4.size
      have hka4 := ht4.blk hka (.inr (by omega))
      have ca : w4.cell? ⟨qa, 0, none⟩ = some (.int .u8 (a0.toNat : Int)) := hka4.cell (j := 0) (by rw [hra]; rfl)
      have cb : w4.cell? ⟨qb, 0, none⟩ = some (.int .u8 (b0.toNat : Int)) := hkb.cell (j := 0) (by rw [hrb]; rfl)
      have hqal := hka4.lt
      have hqbl := hkb.lt
      have la := a0.toNat_lt
      have lb := b0.toNat_lt
      have lm := mz.toNat_lt
      have hI : Inv P := ⟨a0, b0, ⟨ra, hra⟩, ⟨rb, hrb⟩, hab⟩
      have hx' : ((a0 - mz).toNat : Int) = ((a0.toNat : Int) - (mz.toNat : Int)) % 256 := by rw [UInt8.toNat_sub]; omega
      have hy' : ((b0 + mz).toNat : Int) = ((b0.toNat : Int) + (mz.toNat : Int)) % 256 := by rw [UInt8.toNat_add]; omega
      have hab' : ((a0 - mz).toNat + (b0 + mz).toNat) % 256 = 255 := by omega
      have hsum : ((a0.toNat : Int) + (b0.toNat : Int)) % 256 = 255 := by omega
      clear hra hrb hab hL hL3 hB hB3 ht3 ht4 hka hkb hka4
      have HX := Lib.hid hx'
      have HY := Lib.hid hy'
      clear hx' hy'
      generalize a0 - mz = a1 at *
      generalize b0 + mz = b1 at *
      generalize a0.toNat = za at *
      generalize b0.toNat = zb at *
      generalize mz.toNat = zm at *
      go_wp2_with fail
      go_quiet (fail)
      have hd := below_drewN (Below.refl w4.heap.size w4) nq
      have hL5 := hL4.below hd
      have hB5 := hB4.trans (hd.mono hB4.size)
      have ca5 : (w4.drewN nq).cell? ⟨qa, 0, none⟩ = some (.int .u8 (za : Int)) := ca
      have cb5 : (w4.drewN nq).cell? ⟨qb, 0, none⟩ = some (.int .u8 (zb : Int)) := cb
      have hz5 : w4.heap.size = (w4.drewN nq).heap.size := rfl
      clear hd hL4 hB4 ca cb
      generalize (w4.drewN nq) = w5 at *
      have hqa5 : qa < w5.heap.size := by omega
      have hqb5 : qb < w5.heap.size := by omega
      have hbl5 := hL5.blt
      have hgl5 := hL5.disk.lt
      by_cases hjl : j < ln
      · have hjl' : (j : Int) < (ln : Int) := by omega
        obtain ⟨sb', so', rfl, stp, Bk, m, d, ks, hstp, d0, d1, hbls, hmle, hBo, hsbl⟩ := losses_later hS hB5 hjl
        go_wp2_with fail
        refine (arm_ g s w5 ((stp : Int) % 30) hL5.disk (by omega)).mono ?_
        rintro e w6 ⟨rfl, hd6, ht6⟩
        have hL6 : Lk w6 g b (s.arm ((stp : Int) % 30)) nl := ⟨hd6, ht6.blk hL5.log (.inr (by omega)), hblt, hL5.least⟩
        have hst6 := arm_st hst ((stp : Int) % 30)
        have hsn6 : (s.arm ((stp : Int) % 30)).n = 12 := hsn
        have ca6 := ht6.cell ca5 (.inr (by show g + 3 ≤ qa; omega))
        have cb6 := ht6.cell cb5 (.inr (by show g + 3 ≤ qb; omega))
        have hB6 := hB5.trans (ht6.below (by omega) (by have := hB5.size; omega))
        have hz6 := ht6.size
        clear hL5 hB5 ca5 cb5 hd6 ht6 d0 d1 hbls hmle hBo hst hsn hf
        generalize s.arm ((stp : Int) % 30) = s6 at *
        have HXw : IntKind.u8.wrap ((za : Int) - zm) = (a1.toNat : Int) := by rw [HX.out]; exact wrap8 _
        have HYw : IntKind.u8.wrap ((zb : Int) + zm) = (b1.toNat : Int) := by rw [HY.out]; exact wrap8 _
        have hB6z := hB6.size
        have kA1 := cell_alloc (cell_alloc (cell_alloc ca6 (u8O (a1.toNat : Int))) (u8O (b1.toNat : Int))) (twO w6.heap.size (w6.heap.size + 1))
        have kB1 := cell_alloc (cell_alloc (cell_alloc cb6 (u8O (a1.toNat : Int))) (u8O (b1.toNat : Int))) (twO w6.heap.size (w6.heap.size + 1))
        have kA2 := cell_alloc (cell_alloc (cell_alloc ca6 (u8O (b1.toNat : Int))) (u8O (a1.toNat : Int))) (twO (w6.heap.size + 1) w6.heap.size)
        have kB2 := cell_alloc (cell_alloc (cell_alloc cb6 (u8O (b1.toNat : Int))) (u8O (a1.toNat : Int))) (twO (w6.heap.size + 1) w6.heap.size)
        have hLk1 := (((hL6.alloc (u8O (a1.toNat : Int))).alloc (u8O (b1.toNat : Int))).alloc (twO w6.heap.size (w6.heap.size + 1))).below ((Below.refl _ _).drew)
        have hLk2 := (((hL6.alloc (u8O (b1.toNat : Int))).alloc (u8O (a1.toNat : Int))).alloc (twO (w6.heap.size + 1) w6.heap.size)).below ((Below.refl _ _).drew)
        have hU1 := (uss_tw w6 g (b + 1) a1 b1 rfl rfl (show b + 1 ≤ w6.heap.size by omega)).below ((Below.refl _ _).drew)
        have hU2 := (uss_wt w6 g (b + 1) a1 b1 rfl rfl (show b + 1 ≤ w6.heap.size by omega)).below ((Below.refl _ _).drew)
        have hBx1 : Below w.heap.size w (((w6.alloc (u8O (a1.toNat : Int))).alloc (u8O (b1.toNat : Int))).alloc (twO w6.heap.size (w6.heap.size + 1))).drew := by go_grown
        have hBx2 : Below w.heap.size w (((w6.alloc (u8O (b1.toNat : Int))).alloc (u8O (a1.toNat : Int))).alloc (twO (w6.heap.size + 1) w6.heap.size)).drew := by go_grown
        go_wp2_with fail
        go_region_held3 (fun w' => w'.cell? ⟨qa, 0, none⟩ = some (.int .u8 (za : Int)) ∧ w'.cell? ⟨qb, 0, none⟩ = some (.int .u8 (zb : Int)))
          (first | go_keep | exact ⟨ca6, cb6⟩ | exact ⟨kA1, kB1⟩ | exact ⟨kA2, kB2⟩ | exact ⟨hT7.cell kA1 (.inr (by show g + 3 ≤ qa; omega)) (by show qa ≠ b; omega), hT7.cell kB1 (.inr (by show g + 3 ≤ qb; omega)) (by show qb ≠ b; omega)⟩ | exact ⟨hT7.cell kA2 (.inr (by show g + 3 ≤ qa; omega)) (by show qa ≠ b; omega), hT7.cell kB2 (.inr (by show g + 3 ≤ qb; omega)) (by show qb ≠ b; omega)⟩)
          (first
            | (go_at_call 15
               refine (commit_any g b s6 t nl P _ 2 2 [(0, [a1]), (2, [b1])] _ hLk1 hst6 hU1 (by omega) (by unfold topN; omega) (by unfold topN; omega)).mono ?_
               rintro e w7 ⟨E, s7, n7, rfl, hfz7, hT7, hL7, hC⟩
               have hB7 : Below w.heap.size w w7 := hBx1.trans (hT7.below hgw hbw hBx1.size)
               have hz7 : w6.heap.size ≤ w7.heap.size := by have := hT7.size; simp at this; omega)
            | (go_at_call 15
               refine (commit_any g b s6 t nl P _ 2 2 [(0, [a1]), (2, [b1])] _ hLk2 hst6 hU2 (by omega) (by unfold topN; omega) (by unfold topN; omega)).mono ?_
               rintro e w7 ⟨E, s7, n7, rfl, hfz7, hT7, hL7, hC⟩
               have hB7 : Below w.heap.size w w7 := hBx2.trans (hT7.below hgw hbw hBx2.size)
               have hz7 : w6.heap.size ≤ w7.heap.size := by have := hT7.size; simp at this; omega))
        all_goals
          obtain ⟨hrec, hok⟩ := comm_inv hst6 hI hsn6 (by unfold topN; omega) (by unfold topN; omega) hab' hfz7 hC
          have hn7 : s7.n = 12 := hfz7.n.trans hsn6
          clear kA1 kB1 kA2 kB2 hLk1 hLk2 hU1 hU2 hBx1 hBx2 hT7 hC HXw HYw
          clear hok
          have hgl7 := hL7.disk.lt
          have hd7 := hL7.disk
          go_wp2_with fail
          refine (cut_ g s7 w7 hd7).mono ?_
          rintro e w8 ⟨rfl, hd8, ht8⟩
          have hB8 := hB7.trans (ht8.below (by omega) hB7.size)
          obtain ⟨b8, o8, hS8, st8, B8, m8, d8, ks8, hst8l, e0, e1, hbl8, hm8, hBo8, hb8l⟩ := losses_later hS hB8 hjl
          injection hS8 with hS8
          injection hS8 with hS8a hS8b
          subst hS8a hS8b
          have hz8 := hB8.size
          go_wp2_with fail
          refine (start_ g s7.cut B8 m8 d8 ks8 w8 hd8 hbl8 (by omega) (fun a ha h0 => .inl (by have := hBo8 a ha h0; omega))).mono ?_
          rw [cut_start]
          rintro e w9 ⟨rfl, hd9, ht9⟩
          have hd9 : Dk w9 g (again s7 ks8) := hd9
          have hB9 := hB8.trans (ht9.below (by omega) hz8)
          obtain ⟨t9, n9, P9, i1, i2, ⟨i3, i4⟩, i5⟩ := hrec.again ks8
          have hup9 := again_up s7 ks8
          have hf9 : (again s7 ks8).fuse = -1 := rfl
          have hn9 : (again s7 ks8).n = 12 := hn7
          generalize again s7 ks8 = s9 at *
          go_wp2_with fail
          refine (open_log g s9 t9 n9 P9 w9 hd9 (by omega) hup9 (by rw [hn9]; exact i5) (by unfold topN; omega) i2).mono ?_
          rintro e w10 ⟨s10, hd10, hfz10, ht10, hO⟩
          have hB10 := hB9.trans (ht10.below (by omega) hB9.size)
          have hn10 := hfz10.n.trans hn9
          have hf10 := (hfz10.fuse (by omega)).trans hf9
          obtain ⟨b10, t10, hle, hle10, rfl, hb10, hst10, hL10⟩ | ⟨_, hfx, _⟩ := hO
          · have hb10w : w.heap.size ≤ b10 := by have := hB9.size; omega
            go_wp2
            go_roundw
            case rel => exact ⟨j + 1, by omega, by go_num, b10, s10, t10, n9, P9, rfl, hL10, hst10, i4, hf10, hn10, by omega, by omega, hb10w, hB10⟩
            case measure => simp [intOf]; omega
          · omega
      · have hjl' : ¬ (j : Int) < (ln : Int) := by omega
        have HXw : IntKind.u8.wrap ((za : Int) - zm) = (a1.toNat : Int) := by rw [HX.out]; exact wrap8 _
        have HYw : IntKind.u8.wrap ((zb : Int) + zm) = (b1.toNat : Int) := by rw [HY.out]; exact wrap8 _
        have hB5z := hB5.size
        have kA1 := cell_alloc (cell_alloc (cell_alloc ca5 (u8O (a1.toNat : Int))) (u8O (b1.toNat : Int))) (twO w5.heap.size (w5.heap.size + 1))
        have kB1 := cell_alloc (cell_alloc (cell_alloc cb5 (u8O (a1.toNat : Int))) (u8O (b1.toNat : Int))) (twO w5.heap.size (w5.heap.size + 1))
        have kA2 := cell_alloc (cell_alloc (cell_alloc ca5 (u8O (b1.toNat : Int))) (u8O (a1.toNat : Int))) (twO (w5.heap.size + 1) w5.heap.size)
        have kB2 := cell_alloc (cell_alloc (cell_alloc cb5 (u8O (b1.toNat : Int))) (u8O (a1.toNat : Int))) (twO (w5.heap.size + 1) w5.heap.size)
        have hLk1 := (((hL5.alloc (u8O (a1.toNat : Int))).alloc (u8O (b1.toNat : Int))).alloc (twO w5.heap.size (w5.heap.size + 1))).below ((Below.refl _ _).drew)
        have hLk2 := (((hL5.alloc (u8O (b1.toNat : Int))).alloc (u8O (a1.toNat : Int))).alloc (twO (w5.heap.size + 1) w5.heap.size)).below ((Below.refl _ _).drew)
        have hU1 := (uss_tw w5 g (b + 1) a1 b1 rfl rfl (show b + 1 ≤ w5.heap.size by omega)).below ((Below.refl _ _).drew)
        have hU2 := (uss_wt w5 g (b + 1) a1 b1 rfl rfl (show b + 1 ≤ w5.heap.size by omega)).below ((Below.refl _ _).drew)
        have hBx1 : Below w.heap.size w (((w5.alloc (u8O (a1.toNat : Int))).alloc (u8O (b1.toNat : Int))).alloc (twO w5.heap.size (w5.heap.size + 1))).drew := by go_grown
        have hBx2 : Below w.heap.size w (((w5.alloc (u8O (b1.toNat : Int))).alloc (u8O (a1.toNat : Int))).alloc (twO (w5.heap.size + 1) w5.heap.size)).drew := by go_grown
        go_wp2_with fail
        go_region_held3 (fun w' => w'.cell? ⟨qa, 0, none⟩ = some (.int .u8 (za : Int)) ∧ w'.cell? ⟨qb, 0, none⟩ = some (.int .u8 (zb : Int)))
          (first | go_keep | exact ⟨ca5, cb5⟩ | exact ⟨kA1, kB1⟩ | exact ⟨kA2, kB2⟩ | exact ⟨hT7.cell kA1 (.inr (by show g + 3 ≤ qa; omega)) (by show qa ≠ b; omega), hT7.cell kB1 (.inr (by show g + 3 ≤ qb; omega)) (by show qb ≠ b; omega)⟩ | exact ⟨hT7.cell kA2 (.inr (by show g + 3 ≤ qa; omega)) (by show qa ≠ b; omega), hT7.cell kB2 (.inr (by show g + 3 ≤ qb; omega)) (by show qb ≠ b; omega)⟩)
          (first
            | (go_at_call 15
               refine (commit_any g b s t nl P _ 2 2 [(0, [a1]), (2, [b1])] _ hLk1 hst hU1 (by omega) (by unfold topN; omega) (by unfold topN; omega)).mono ?_
               rintro e w7 ⟨E, s7, n7, rfl, hfz7, hT7, hL7, hC⟩
               have hB7 : Below w.heap.size w w7 := hBx1.trans (hT7.below hgw hbw hBx1.size)
               have hz7 : w5.heap.size ≤ w7.heap.size := by have := hT7.size; simp at this; omega)
            | (go_at_call 15
               refine (commit_any g b s t nl P _ 2 2 [(0, [a1]), (2, [b1])] _ hLk2 hst hU2 (by omega) (by unfold topN; omega) (by unfold topN; omega)).mono ?_
               rintro e w7 ⟨E, s7, n7, rfl, hfz7, hT7, hL7, hC⟩
               have hB7 : Below w.heap.size w w7 := hBx2.trans (hT7.below hgw hbw hBx2.size)
               have hz7 : w5.heap.size ≤ w7.heap.size := by have := hT7.size; simp at this; omega))
        all_goals
          obtain ⟨hrec, hok⟩ := comm_inv hst hI hsn (by unfold topN; omega) (by unfold topN; omega) hab' hfz7 hC
          have hn7 : s7.n = 12 := hfz7.n.trans hsn
          clear kA1 kB1 kA2 kB2 hLk1 hLk2 hU1 hU2 hBx1 hBx2 hT7 hC HXw HYw
          obtain ⟨rfl, rfl, t7, ht7, hst7⟩ := hok (by omega)
          have hf7 := (hfz7.fuse (by omega)).trans hf
          go_wp2
          go_roundw
          case rel => exact ⟨j + 1, by omega, by go_num, b, s7, t7, nl + 1, _, rfl, hL7, hst7, inv_done P a1 b1 hab', hf7, hn7, by omega, by omega, hbw, hB7⟩
          case measure => simp [intOf]; omega
    · go_wp2
      go_ret
      exact ⟨rfl, hB⟩

set_option maxRecDepth 100000 in
theorem topTransfers_lifted (os : Os) (started : os.Started) (H : Type) (enc : TypeId × Value → H) :
    ReturnsInHanded {} Try.checked os 9 .any (Rows.topTransfersSpec.pre6 enc Try.prog Try.f9 Rows.topTransfersRow.domain false) (Rows.topTransfersSpec.post enc Try.prog Try.f9 false true false false) := by
  refine law_lifted (C := Try.checked) (tb := 4) own_ started (by kernel_rfl) Try.func9
    (ChangeSpec.witness6 (enc := enc) (C := Try.checked) false ⟨#[], #[.slice none 0 0, .slice none 0 0], []⟩ 8 (by kernel_rfl) (by kernel_rfl) (by kernel_rfl) (by kernel_rfl))
    rfl rfl Try.underlying4 laidOut_ (by kernel_rfl) (fun ds h => by match ds, h with | [_, _], _ => rfl) ?_
  intro W base args ds p hval0 hA0 _ hsz0
  have hval : ∀ (j : Nat) t v, Try.f9.params[j]? = some t → args[j]? = some v → Value.okWide Try.prog W .any base t v := hval0
  have hA : DataW.TrodAll enc Try.prog W 0 (fun _ => true) true Try.f9.params.toList args.toList ds p := hA0
  have hsz : (DataW.weightsEach Try.prog Try.f9.params.toList ds).all (· ≤ reachBytes) = true := hsz0
  clear hval0 hA0 hsz0
  rw [Try.params9] at hA hval hsz
  obtain ⟨v0, v1, d0, d1, p0, p1, rfl, rfl, rfl, h0, h1⟩ := trodAll_two hA
  obtain ⟨A0, n0, c0, xs0, rfl, r0, b0⟩ := arg_slice ops_bytes Try.underlying36 (hval 0 _ v0 rfl rfl) h0 (weight_at hsz (j := 0) rfl rfl)
  obtain ⟨hb0, hn0, ha0, hc0⟩ := bs_shp r0
  obtain ⟨A1, n1, c1, xs1, rfl, r1, b1⟩ := arg_slice ops_losses Try.underlying69 (hval 1 _ v1 rfl rfl) h1 (weight_at hsz (j := 1) rfl rfl)
  exact topTransfers_walk A0 n0 c0 xs0 A1 n1 c1 xs1 W hb0 ha0 hn0 hc0 r1

/-- TopTransfers, for every input: the statement as it was given. -/
theorem topTransfers_holds : Rows.TopTransfersSaid :=
  OpenClaim.holds_of_wide 9 Try.f9 rfl rfl rfl rfl rfl rfl rfl ⟨rfl, rfl, rfl, rfl, rfl⟩ rfl rfl rfl rfl rfl (by kernel_rfl) Try.func9 (by kernel_rfl)
    (of_decide_eq_true (by kernel_rfl)) (by unfold Func.isWrapper; first | (rw [if_pos (by decide +kernel)]; kernel_rfl) | (rw [if_neg (by decide +kernel)]; exact ⟨rfl, rfl⟩))
    (fun os started H enc _ => topTransfers_lifted os started H enc)
end Go.Proofs.Ytlpbdnncbinbmaa
