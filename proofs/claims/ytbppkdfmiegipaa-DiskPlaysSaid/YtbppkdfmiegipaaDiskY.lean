/- Proves DiskPlays of layer 3 (disks), for every input, with no condition: a disk answers every call, in every order, as the document says, and stands behind each as the document's does. -/
import Derived.Test.YtbppkdfmiegipaaRefN
import Derived.Test.YtbppkdfmiegipaaSame
import Derived.Deep.DeepCutAuto
import Derived.Deep.CutBlock
import Derived.BigQuiet
namespace Go.Proofs.Ytbppkdfmiegipaa
open Go.ChangeShapes Go.WideShapes Go.ChangeAt Go.RowKit Go.Maps

theorem info_ref : ∃ i, Try.prog.info? 30 = some i ∧ i.zero = some (.agg #[.slice none 0 0, .slice none 0 0, .slice none 0 0, .bool false, .int .i64 0]) ∧ i.size = 5 := by
  have h : (Try.prog.info? 30).map (fun i => (i.zero, i.size)) = some (some (.agg #[.slice none 0 0, .slice none 0 0, .slice none 0 0, .bool false, .int .i64 0]), 5) := by kernel_rfl
  obtain ⟨i, hi, he⟩ := Option.map_eq_some_iff.1 h
  simp only [Prod.mk.injEq] at he
  exact ⟨i, hi, he.1, he.2⟩
theorem quiet_back {f : FuncId} {args : Array Value} {w : World} {n : Nat} {v : Value} (h : Calls Try.prog f args (w.drewN n) fun e w' => e = .returned v ∧ w.drewN n = w') : Calls Try.prog f args (w.drewN n) fun e w'' => e = .returned v ∧ ∃ m, w'' = w.drewN m :=
  h.mono fun _ _ ⟨he, hm⟩ => ⟨he, n, hm.symm⟩
/-- Both disks stand at s. -/
structure PlayAt (w w' : World) (g : Nat) (G : RG) (s : DS) : Prop where
  disk : Dk w' g s
  ref : Rk w' G s
  below : Below w.heap.size w w'
theorem PlayAt.both {w w6 wA wB : World} {g : Nat} {G : RG} {s s' : DS} (h : PlayAt w w6 g G s) (h0 : w.heap.size ≤ g) (hG : g + 3 ≤ G.lo) (hA : Dk wA g s') (htA : Tn g (g + 3) w6 wA) (hB : Rk wB G s') (htB : Tn G.lo (G.rb + 1) wA wB) : PlayAt w wB g G s' :=
  have hs := h.below.size
  have hs' := htA.size
  ⟨hA.tn htB (by omega), hB, (h.below.trans (htA.below h0 hs)).trans (htB.below (by omega) (by omega))⟩
theorem PlayAt.drew {w w' : World} {g : Nat} {G : RG} {s : DS} (h : PlayAt w w' g G s) : PlayAt w w'.drew g G s := ⟨h.disk.drew, h.ref.drew, ⟨h.below.os, h.below.tape, h.below.output, h.below.size, h.below.block⟩⟩
theorem PlayAt.drewN {w w' : World} {g : Nat} {G : RG} {s : DS} (h : PlayAt w w' g G s) (n : Nat) : PlayAt w (w'.drewN n) g G s := ⟨h.disk.drewN n, h.ref.drewN n, below_drewN h.below n⟩
theorem PlayAt.on {w'' w w' : World} {g : Nat} {G : RG} {s : DS} (h : PlayAt w w' g G s) (hb : Below w'.heap.size w' w'') : PlayAt w w'' g G s := ⟨h.disk.below hb, h.ref.below hb, h.below.trans (hb.mono h.below.size)⟩
theorem Got.bs {w w' : World} {v : Value} {xs : List UInt8} (h : Got w w' v xs) : ∃ A n c, v = .slice A n c ∧ Bs w' A n xs ∧ (A = none → n = 0) := by
  obtain ⟨rfl, rfl⟩ | ⟨q, rfl, h1, _, h2⟩ := h
  · exact ⟨_, _, _, rfl, Bs.nil, fun _ => rfl⟩
  · refine ⟨_, _, _, rfl, ⟨by simp [bvs, h1], fun j u hu => ⟨q, 0, rfl, ?_⟩⟩, fun e => by cases e⟩
    rw [Nat.zero_add]
    exact h2.cell (by simpa using hu)

set_option maxRecDepth 100000 in
set_option maxHeartbeats 4000000 in
theorem diskPlays_bad (z : Int) (S : Option Addr) (sn sc : Nat) (w : World) (hz : ¬ (1 ≤ z ∧ z ≤ 256)) :
    Calls Try.prog 3 #[.int .i64 z, .slice S sn sc] w fun e w' => e = .returned (.bool true) ∧ Below w.heap.size w w' := by
  go_enter Try.func3, Try.ntmps3
  go_wp2_with fail
  refine (new_bad z _ hz).mono ?_
  rintro e w' ⟨rfl, rfl⟩
  go_wp2_with fail
  refine (rnew_bad z _ hz).mono ?_
  rintro e w2 ⟨rfl, hb2⟩
  obtain ⟨ir, hir, hirz, _⟩ := info_ref
  go_wp2_with (first
    | (refine wpList_alloc_blk _ rfl 30 rfl ir _ hir hirz ?_
       intro w3 hk3 hb3 hs3)
    | (refine wpList_store_blk _ rfl 30 _ _ rfl w2.heap.size 30 _ _ hk3 rfl rfl rfl (by kernel_rfl) (by simp [Value.oneCell']) ?_
       intro w4 hk4 ht4)
    | fail)
  refine (alive_ _).mono ?_
  rintro e w5 ⟨rfl, hb5⟩
  have hB3 : Below w.heap.size w w3 := hb2.trans (hb3.mono hb2.size)
  have hB4 : Below w.heap.size w w4 := hB3.trans (ht4.below hb2.size hB3.size)
  go_wp2
  go_ret
  exact ⟨rfl, hB4.trans (hb5.mono hB4.size)⟩

set_option maxRecDepth 100000 in
set_option maxHeartbeats 8000000 in
theorem diskPlays_good (n : Nat) (S : Option Addr) (sn sc : Nat) (l : List ActV) (w : World) (h1 : 0 < n) (h256 : n ≤ 256)
    (hl : (Shp.slice actShp 64).R w [.slice S sn sc] l) (hsn : sn ≤ 9223372036854775807) :
    Calls Try.prog 3 #[.int .i64 (n : Int), .slice S sn sc] w fun e w' => e = .returned (.bool true) ∧ Below w.heap.size w w' := by
  obtain ⟨ir, hir, hirz, _⟩ := info_ref
  go_enter Try.func3, Try.ntmps3
  go_wp2_with fail
  refine (new_ n w h1 h256).mono ?_
  rintro e w1 ⟨g, rfl, hg, k1, hb1⟩
  have hl1 := k1.lt
  go_wp2_with fail
  refine (rnew_ n w1 h1 h256).mono ?_
  rintro e w2 ⟨G0, rfl, hG, hmk, hb2⟩
  go_wp2_with (first
    | (refine wpList_alloc_blk _ rfl 30 rfl ir _ hir hirz ?_
       intro w3 hk3 hb3 hs3)
    | (refine wpList_store_blk _ rfl 30 _ _ rfl w2.heap.size 30 _ (RkC G0 (DS.fresh n)) hk3 rfl rfl rfl (by kernel_rfl) (by simp [RkC, Value.oneCell']) ?_
       intro w4 hk4 ht4)
    | fail)
  have hsz := hb1.size
  have hsz2 := hb2.size
  have hb34 : Below w2.heap.size w2 w4 := hb3.trans (ht4.below (Nat.le_refl _) hb3.size)
  have hb14 : Below w1.heap.size w1 w4 := hb2.trans (hb34.mono hsz2)
  have hR4 := hmk w4 w2.heap.size hb34 (Nat.le_refl _) hk4
  have h4 : PlayAt w w4 g { G0 with rb := w2.heap.size } (DS.fresh n) := ⟨k1.below hb14, hR4, hb1.trans (hb14.mono hsz)⟩
  have hlo : G0.lo = w1.heap.size := hG.symm
  clear hb1 hb2 hb3 hs3 hk3 hk4 ht4 hb34 hb14 hR4 hmk hG k1
  generalize w2.heap.size = rb at *
  obtain ⟨G, hGe, hrb⟩ : ∃ G : RG, G = { G0 with rb := rb } ∧ rb = G.rb := ⟨_, rfl, rfl⟩
  have hGl : G.lo = w1.heap.size := by rw [hGe]; exact hlo
  rw [← hGe] at h4
  clear hGe hlo
  subst hrb
  have h0 : w.heap.size ≤ g := by omega
  have hgG : g + 3 ≤ G.lo := by omega
  clear hg hGl hl1 hsz hsz2
  refine (alive_ _).mono ?_
  rintro e w5 ⟨rfl, hb5⟩
  have h5 := h4.on hb5
  clear h4 hb5
  generalize DS.fresh n = s5 at *
  go_wp2_with fail
  go_loopw [44] (fun iv wr => ∃ (k : Nat) (s : DS), k ≤ sn ∧ iv = .int .i64 (k : Int) ∧ PlayAt w wr g G s) (fun iv _ => sn - (intOf iv).toNat)
  case atStart => exact ⟨0, s5, Nat.zero_le _, rfl, h5⟩
  case round =>
    obtain ⟨k, s, hk, rfl, hp⟩ := hrel
    clear h5
    have hbs := hp.below.size
    by_cases hlt : k < sn
    · obtain ⟨b, o, rfl, kd1, i1, A1, B1, n1, c1, m1, d1, xs1, ks1, hkd1, hi1, e0, e1, e2, e3, q1, q2, q3, q4, q5, q6, q7, _⟩ := acts_later hl hp.below hlt
      have hkl : (k : Int) < (sn : Int) := by omega
      have el := cell_lt e0
      have hb' : Below wr.heap.size wr (wr.alloc (.cells #[.int .u8 (kd1 : Int), .int .i64 i1, .slice A1 n1 c1, .slice B1 m1 d1] 36)) := (Below.refl _ _).alloc (Nat.le_refl _) _
      have hac := Blk.new wr 36 #[.int .u8 (kd1 : Int), .int .i64 i1, .slice A1 n1 c1, .slice B1 m1 d1] rfl
      have hp6 := hp.on hb'
      have q16 := q1.below hb'
      have q46 : Bls _ B1 m1 ks1 := Rd.below q4 hb'
      have hrl := hp.ref.lt
      have hap := hp.ref.apart.p
      clear hl hb' q1 q4
      go_upto_block 2 with fail
      have hnw : w.heap.size ≤ wr.heap.size := hbs
      clear e0 e1 e2 e3 el hp
      generalize wr.alloc (.cells #[.int .u8 (kd1 : Int), .int .i64 i1, .slice A1 n1 c1, .slice B1 m1 d1] 36) = w6 at *
      generalize wr.heap.size = d at *
      have a0 := hac.cell (j := 0) (u := .int .u8 (kd1 : Int)) rfl
      have a1 := hac.cell (j := 1) (u := .int .i64 i1) rfl
      have a2 := hac.cell (j := 2) (u := .slice A1 n1 c1) rfl
      have a3 := hac.cell (j := 3) (u := .slice B1 m1 d1) rfl
      have X1 := Lib.hid (show ∀ a, A1 = some a → 0 < n1 → a.block < g ∨ g + 3 ≤ a.block from fun a ha h0 => by have := q6 a ha h0; omega)
      have X2 := Lib.hid (show ∀ a, A1 = some a → 0 < n1 → a.block < G.lo ∨ G.rb < a.block from fun a ha h0 => by have := q6 a ha h0; omega)
      have Y1 := Lib.hid (show ∀ a, B1 = some a → 0 < m1 → a.block < g ∨ g + 3 ≤ a.block from fun a ha h0 => by have := q7 a ha h0; omega)
      have Y2 := Lib.hid (show ∀ a, B1 = some a → 0 < m1 → a.block < G.lo ∨ G.rb < a.block from fun a ha h0 => by have := q7 a ha h0; omega)
      have kk : 0 ≤ (kd1 : Int) := by omega
      clear q6 q7 hbs
      go_cut [11] (fun okv wc => okv = .bool true ∧ ∃ s', PlayAt w wc g G s')
      case first =>
        have hcs : kd1 % 7 = 0 ∨ kd1 % 7 = 1 ∨ kd1 % 7 = 2 ∨ kd1 % 7 = 3 ∨ kd1 % 7 = 4 ∨ kd1 % 7 = 5 ∨ kd1 % 7 = 6 := by omega
        rcases hcs with e | e | e | e | e | e | e
        all_goals
          have q := mod7 e
          clear e
        · go_wp2_with fail
          go_region_held3 (fun w' => w'.cell? ⟨d, 1, none⟩ = some (.int .i64 i1) ∧ w'.cell? ⟨d, 2, none⟩ = some (.slice A1 n1 c1))
            (first
              | exact ⟨a1, a2⟩
              | exact ⟨b1, b2⟩
              | exact ⟨b3, b4⟩)
            (first
              | (go_at_call 12
                 refine (write_ g s i1 A1 n1 c1 xs1 _ (show Dk w6.drew g s from hp6.disk.drew) (show Bs w6.drew A1 n1 xs1 from q16) q2 q3 X1.out).mono ?_
                 rintro e wA ⟨rfl, hA, htA⟩
                 have hacA := htA.blk (show Blk w6.drew d _ _ from hac) (by omega)
                 have b1 := hacA.cell (j := 1) (u := .int .i64 i1) rfl
                 have b2 := hacA.cell (j := 2) (u := .slice A1 n1 c1) rfl
                 have hrA := (show Rk w6.drew G s from hp6.ref.drew).tn htA hgG
                 have qA := htA.bs (show Bs w6.drew A1 n1 xs1 from q16) X1.out)
              | (go_at_call 13
                 refine (rwrite_ G s i1 A1 n1 c1 xs1 _ hrA qA q2 X2.out).mono ?_
                 rintro e wB ⟨rfl, hB, htB⟩
                 have hacB := htB.blk hacA (by omega)
                 have b3 := hacB.cell (j := 1) (u := .int .i64 i1) rfl
                 have b4 := hacB.cell (j := 2) (u := .slice A1 n1 c1) rfl))
          go_wp2_with fail
          go_meet
          exact ⟨by simp, _, hp6.drew.both h0 hgG hA htA hB htB⟩
        · go_wp2_with fail
          refine (read_ g s i1 _ hp6.disk).mono ?_
          rintro e wA ⟨v, rfl, hgot, _, hbA⟩
          obtain ⟨A2, n2, c2, rfl, hx2, hn2⟩ := Got.bs hgot
          clear hgot
          have hacA := hac.keep hbA
          have hrA := hp6.ref.below hbA
          have b1 := hacA.cell (j := 1) (u := .int .i64 i1) rfl
          go_wp2_with fail
          refine (rread_ G s i1 _ hrA).mono ?_
          rintro e wB ⟨A3, n3, c3, rfl, hx3, hn3, hbB⟩
          have hx2' := hx2.below hbB
          have hsm : ((s.read i1).1 == (s.read i1).1) = true := by simp
          go_wp2_with fail
          refine (same_ A2 A3 n2 c2 n3 c3 _ _ _ hx2' hx3 hn2 hn3).mono ?_
          rw [hsm]
          rintro e w' ⟨rfl, rfl⟩
          go_wp2_with fail
          go_meet
          exact ⟨by simp, s, (hp6.on hbA).on hbB⟩
        · go_wp2_with fail
          refine (flush_ g s _ hp6.disk).mono ?_
          rintro e wA ⟨rfl, hA, htA⟩
          have hrA := hp6.ref.tn htA hgG
          go_wp2_with fail
          refine (rflush_ G s _ hrA).mono ?_
          rintro e wB ⟨rfl, hB, htB⟩
          go_wp2_with fail
          go_meet
          exact ⟨by simp, _, hp6.both h0 hgG hA htA hB htB⟩
        · go_wp2_with fail
          refine (arm_ g s _ i1 hp6.disk hi1).mono ?_
          rintro e wA ⟨rfl, hA, htA⟩
          have hacA := htA.blk hac (by omega)
          have b1 := hacA.cell (j := 1) (u := .int .i64 i1) rfl
          have htA' : Tn g (g + 3) w6 wA := htA.wide (by omega) (by omega)
          have hrA := hp6.ref.tn htA' hgG
          go_wp2_with fail
          refine (rarm_ G s _ i1 hrA hi1).mono ?_
          rintro e wB ⟨rfl, hB, htB⟩
          go_wp2_with fail
          go_meet
          exact ⟨rfl, _, hp6.both h0 hgG hA htA' hB (htB.wide (by omega) (by omega))⟩
        · go_wp2_with fail
          refine (cut_ g s _ hp6.disk).mono ?_
          rintro e wA ⟨rfl, hA, htA⟩
          have htA' : Tn g (g + 3) w6 wA := htA.wide (by omega) (by omega)
          have hrA := hp6.ref.tn htA' hgG
          go_wp2_with fail
          refine (rcut_ G s _ hrA).mono ?_
          rintro e wB ⟨rfl, hB, htB⟩
          go_wp2_with fail
          go_meet
          exact ⟨rfl, _, hp6.both h0 hgG hA htA' hB (htB.wide (by omega) (by omega))⟩
        · go_wp2_with fail
          go_region_held3 (fun w' => w'.cell? ⟨d, 3, none⟩ = some (.slice B1 m1 d1))
            (first
              | exact a3
              | exact b1
              | exact b3)
            (first
              | (go_at_call 23
                 refine (start_ g s B1 m1 d1 ks1 _ (show Dk w6.drew g s from hp6.disk.drew) (show Bls w6.drew B1 m1 ks1 from q46) q5 Y1.out).mono ?_
                 rintro e wA ⟨rfl, hA, htA⟩
                 have hacA := htA.blk (show Blk w6.drew d _ _ from hac) (by omega)
                 have b1 := hacA.cell (j := 3) (u := .slice B1 m1 d1) rfl
                 have hrA := (show Rk w6.drew G s from hp6.ref.drew).tn htA hgG
                 have qA : Bls wA B1 m1 ks1 := htA.rd (show Rd w6.drew B1 1 m1 (ks1.map Value.bool) from q46) Y1.out)
              | (go_at_call 24
                 refine (rstart_ G s B1 m1 d1 ks1 _ hrA qA q5 Y2.out).mono ?_
                 rintro e wB ⟨rfl, hB, htB⟩
                 have hacB := htB.blk hacA (by omega)
                 have b3 := hacB.cell (j := 3) (u := .slice B1 m1 d1) rfl))
          go_wp2_with fail
          go_meet
          exact ⟨by simp, _, hp6.drew.both h0 hgG hA htA hB htB⟩
        · go_wp2_with fail
          go_meet
          exact ⟨rfl, s, hp6⟩
      case rest =>
        obtain ⟨rfl, s', hpc⟩ := hcut
        clear hp6 hac a0 a1 a2 a3 q16 q46 X1 X2 Y1 Y2 q2 q3 q5
        have hdx := hpc.disk
        have hrx := hpc.ref
        have c3 := hrx.self.cell (j := 3) (u := .bool s'.on) rfl
        have c0 := hrx.self.cell (j := 0) (u := .slice (some ⟨G.pb, 0, none⟩) s'.n G.pc) rfl
        go_wp2_with fail
        go_quiet (first
          | (go_at_call 25; exact quiet_back (on_ g s' _ (hdx.drewN _)))
          | (go_at_call 26; exact quiet_back (dirty_ g s' _ (hdx.drewN _)))
          | (go_at_call 27; exact quiet_back (rdirty_ G s' _ (hrx.drewN _)))
          | (go_at_call 28; exact quiet_back (sectors_ g s' _ (hdx.drewN _))))
        go_wp2_with fail
        go_roundw
        case rel => exact ⟨k + 1, s', by omega, by go_num, hpc.drewN nq⟩
        case measure => simp [intOf]; omega
    · have hkl : (sn : Int) ≤ (k : Int) := by omega
      go_wp2
      go_ret
      exact ⟨rfl, hp.below⟩

theorem diskPlays_walk (z : Int) (S : Option Addr) (sn sc : Nat) (l : List ActV) (w : World)
    (hl : (Shp.slice actShp 64).R w [.slice S sn sc] l) (hsn : sn ≤ 9223372036854775807) :
    Calls Try.prog 3 #[.int .i64 z, .slice S sn sc] w fun e w' => e = .returned (.bool true) ∧ Below w.heap.size w w' := by
  by_cases hz : 1 ≤ z ∧ z ≤ 256
  · obtain ⟨n, rfl⟩ := Int.eq_ofNat_of_zero_le (show 0 ≤ z by omega)
    exact diskPlays_good n S sn sc l w (by omega) (by omega) hl hsn
  · exact diskPlays_bad z S sn sc w hz

theorem diskPlays_lifted (os : Os) (started : os.Started) (H : Type) (enc : TypeId × Value → H) :
    ReturnsInHanded {} Try.checked os 3 .any (Rows.diskPlaysSpec.pre6 enc Try.prog Try.f3 Rows.diskPlaysRow.domain false) (Rows.diskPlaysSpec.post enc Try.prog Try.f3 false true false false) := by
  refine law_lifted (C := Try.checked) (tb := 4) own_ started (by kernel_rfl) Try.func3
    (ChangeSpec.witness6 (enc := enc) (C := Try.checked) false ⟨#[], #[.int .i64 0, .slice none 0 0], []⟩ 8 (by kernel_rfl) (by kernel_rfl) (by kernel_rfl) (by kernel_rfl))
    rfl rfl Try.underlying4 laidOut_ (by kernel_rfl) (fun ds h => by match ds, h with | [_, _], _ => rfl) ?_
  intro W base args ds p hval0 hA0 _ hsz0
  have hval : ∀ (j : Nat) t v, Try.f3.params[j]? = some t → args[j]? = some v → Value.okWide Try.prog W .any base t v := hval0
  have hA : DataW.TrodAll enc Try.prog W 0 (fun _ => true) true Try.f3.params.toList args.toList ds p := hA0
  have hsz : (DataW.weightsEach Try.prog Try.f3.params.toList ds).all (· ≤ reachBytes) = true := hsz0
  clear hval0 hA0 hsz0
  rw [Try.params3] at hA hval hsz
  obtain ⟨v0, v1, d0, d1, p0, p1, rfl, rfl, rfl, h0, h1⟩ := trodAll_two hA
  obtain ⟨z0, rfl, hz0⟩ := arg_int _ _ Try.underlying3 (hval 0 _ v0 rfl rfl) h0 wf_i64
  obtain ⟨A1, n1, c1, xs1, rfl, r1, b1⟩ := arg_slice ops_acts Try.underlying22 (hval 1 _ v1 rfl rfl) h1 (weight_at hsz (j := 1) rfl rfl)
  exact diskPlays_walk z0 A1 n1 c1 xs1 W r1 (acts_len r1)

/-- DiskPlays, for every input: the statement as it was given. -/
theorem diskPlays_holds : Rows.DiskPlaysSaid :=
  OpenClaim.holds_of_wide 3 Try.f3 rfl rfl rfl rfl rfl rfl rfl ⟨rfl, rfl, rfl, rfl, rfl⟩ rfl rfl rfl rfl rfl (by kernel_rfl) Try.func3 (by kernel_rfl)
    (of_decide_eq_true (by kernel_rfl)) (by unfold Func.isWrapper; first | (rw [if_pos (by decide +kernel)]; kernel_rfl) | (rw [if_neg (by decide +kernel)]; exact ⟨rfl, rfl⟩))
    (fun os started H enc _ => diskPlays_lifted os started H enc)
end Go.Proofs.Ytbppkdfmiegipaa
