/- Proves AllocPlays of layer 5 (alloc), for every input, with no condition: an allocator answers every call, in every order, as the document says, and stands behind each as the document's does. -/
import Derived.Test.YtlkhlbieiogahaaRaN
import Derived.Deep.DeepCutAuto
import Derived.Deep.CutBlock
import Derived.BigQuiet
namespace Go.Proofs.Ytlkhlbieiogahaa
open Go.ChangeShapes Go.WideShapes Go.ChangeAt Go.RowKit Go.Maps

theorem info_ref : (Try.prog.info? 30).map (fun i => (i.zero, i.size, i.bytes)) = some (some (.agg #[.slice none 0 0, .slice none 0 0]), 2, 48) := by kernel_rfl
theorem quiet_back {f : FuncId} {args : Array Value} {w : World} {n : Nat} {v : Value} (h : Calls Try.prog f args (w.drewN n) fun e w' => e = .returned v ∧ w.drewN n = w') : Calls Try.prog f args (w.drewN n) fun e w'' => e = .returned v ∧ ∃ m, w'' = w.drewN m :=
  h.mono fun _ _ ⟨he, hm⟩ => ⟨he, n, hm.symm⟩
/-- Where the document's allocator lies, beside the program's. -/
structure Aside (B g p q r : Nat) : Prop where
  ag : B ≤ g
  ap : B ≤ p ∧ (p < g ∨ g + 1 < p)
  aq : B ≤ q ∧ (q < g ∨ g + 1 < q)
  ar : B ≤ r ∧ (r < g ∨ g + 1 < r)
theorem Aside.pqr {B g p q r : Nat} (h : Aside B g p q r) {k : Nat} (hk : PQR p q r k) : B ≤ k ∧ k ≠ g ∧ k ≠ g + 1 := by
  have h1 := h.ap
  have h2 := h.aq
  have h3 := h.ar
  rcases hk with rfl | rfl | rfl <;> omega
/-- Both allocators stand at c. -/
structure PlyAt (w w' : World) (g p q r n : Nat) (c : Nat → Int) : Prop where
  al : Al w' g n c
  ra : Ra w' p q r n c
  below : Below w.heap.size w w'
theorem PlyAt.on {w'' w w' : World} {g p q r n : Nat} {c : Nat → Int} (h : PlyAt w w' g p q r n c) (hb : Below w'.heap.size w' w'') : PlyAt w w'' g p q r n c := ⟨h.al.below hb, h.ra.below hb, h.below.trans (hb.mono h.below.size)⟩
theorem PlyAt.drew {w w' : World} {g p q r n : Nat} {c : Nat → Int} (h : PlyAt w w' g p q r n c) : PlyAt w w'.drew g p q r n c := ⟨h.al.drew, h.ra.drew, ⟨h.below.os, h.below.tape, h.below.output, h.below.size, h.below.block⟩⟩
theorem PlyAt.drewN {w w' : World} {g p q r n : Nat} {c : Nat → Int} (h : PlyAt w w' g p q r n c) (k : Nat) : PlyAt w (w'.drewN k) g p q r n c := ⟨h.al.drewN k, h.ra.drewN k, below_drewN h.below k⟩
/-- The document's allocator, while the program's is written. -/
theorem Ra.tn {w w' : World} {B g p q r n : Nat} {c : Nat → Int} (h : Ra w p q r n c) (ha : Aside B g p q r) (ht : Tn g (g + 1) w w') : Ra w' p q r n c :=
  h.kp (S := fun k => k = g) (Kp.ofTn ht fun k h1 h2 => by omega) (by have := ha.ap; omega) (by have := ha.aq; omega) (by have := ha.ar; omega)
theorem Al.kp {w w' : World} {B g p q r n : Nat} {c : Nat → Int} (h : Al w g n c) (ha : Aside B g p q r) (hk : Kp (PQR p q r) w w') : Al w' g n c :=
  ⟨hk.blk h.row fun hs => (ha.pqr hs).2.1 rfl, hk.blk h.self fun hs => (ha.pqr hs).2.2 rfl, h.most, h.least, h.rng⟩
theorem PlyAt.both {w w6 wA wB : World} {g p q q' r n : Nat} {c c' : Nat → Int} (h : PlyAt w w6 g p q r n c) (ha : Aside w.heap.size g p q r) (hA : Al wA g n c') (htA : Tn g (g + 1) w6 wA) (hB : Ra wB p q' r n c') (hkB : Kp (PQR p q r) wA wB) : PlyAt w wB g p q' r n c' :=
  have hs := h.below.size
  have hs' := htA.size
  ⟨hA.kp ha hkB, hB, (h.below.trans (htA.below ha.ag hs)).trans (hkB.below (fun k hk => (ha.pqr hk).1) (by omega))⟩

set_option maxRecDepth 100000 in
set_option maxHeartbeats 4000000 in
theorem allocPlays_bad (z : Int) (S : Option Addr) (sn sc : Nat) (k : Int) (w : World) (hz : ¬ (1 ≤ z ∧ z ≤ 4096)) :
    Calls Try.prog 3 #[.int .i64 z, .slice S sn sc, .int .i64 k] w fun e w' => e = .returned (.bool true) ∧ Below w.heap.size w w' := by
  obtain ⟨ir, hir, hirz, _, _⟩ := parts_of info_ref
  go_enter Try.func3, Try.ntmps3
  go_wp2_with fail
  refine (new_bad z _ hz).mono ?_
  rintro e w' ⟨rfl, rfl⟩
  go_wp2_with fail
  refine (rnew_bad z _ hz).mono ?_
  rintro e w2 ⟨rfl, hb2⟩
  go_wp2_with (first
    | (refine wpList_alloc_blk _ rfl 30 rfl ir _ hir hirz ?_
       intro w3 hk3 hb3 hs3)
    | (refine wpList_store_blk _ rfl 30 _ _ rfl w2.heap.size 30 _ _ hk3 rfl rfl rfl (by kernel_rfl) (by simp [Value.oneCell']) ?_
       intro w4 hk4 ht4)
    | fail)
  refine (alive_ _).mono ?_
  rintro e w5 ⟨rfl, hb5⟩
  have hB3 : Below w.heap.size w w3 := hb2.trans (hb3.mono hb2.size)
  have hB4 : Below w.heap.size w w4 := hB3.trans (ht4.below hb2.size hB3.size)
  go_wp2
  go_ret
  exact ⟨rfl, hB4.trans (hb5.mono hB4.size)⟩

set_option maxRecDepth 100000 in
set_option maxHeartbeats 8000000 in
theorem allocPlays_good (n : Nat) (S : Option Addr) (sn sc : Nat) (l : List ActV) (look : Int) (w : World) (h1 : 0 < n) (h2 : n ≤ 4096)
    (hl : (Shp.slice actShp 24).R w [.slice S sn sc] l) (hsn : sn ≤ 9223372036854775807) :
    Calls Try.prog 3 #[.int .i64 (n : Int), .slice S sn sc, .int .i64 look] w fun e w' => e = .returned (.bool true) ∧ Below w.heap.size w w' := by
  obtain ⟨ir, hir, hirz, _, _⟩ := parts_of info_ref
  go_enter Try.func3, Try.ntmps3
  go_wp2_with fail
  refine (new_ n w h1 h2).mono ?_
  rintro e w1 ⟨g, rfl, hg, k1, hb1⟩
  have hl1 := k1.lt
  go_wp2_with fail
  refine (rnew_ n w1 h1 h2).mono ?_
  rintro e w2 ⟨p, q, rfl, hp, hq, hpq, hkp, hkq, hb2⟩
  have hlp := hkp.lt
  have hlq := hkq.lt
  go_wp2_with (first
    | (refine wpList_alloc_blk _ rfl 30 rfl ir _ hir hirz ?_
       intro w3 hk3 hb3 hs3)
    | (refine wpList_store_blk _ rfl 30 _ _ rfl w2.heap.size 30 _ #[.slice (some ⟨p, 0, none⟩) n n, .slice (some ⟨q, 0, none⟩) n n] hk3 rfl rfl rfl (by kernel_rfl) (by simp [Value.oneCell']) ?_
       intro w4 hk4 ht4)
    | fail)
  have hsz := hb1.size
  have hsz2 := hb2.size
  have hb34 : Below w2.heap.size w2 w4 := hb3.trans (ht4.below (Nat.le_refl _) hb3.size)
  have hb14 : Below w1.heap.size w1 w4 := hb2.trans (hb34.mono hsz2)
  have hR4 : Ra w4 p q w2.heap.size n (fun _ => 0) := ⟨hkp.keep hb34, hkq.keep hb34, hk4, h2, h1, fun j _ => by omega, hpq, by omega, by omega⟩
  have h4 : PlyAt w w4 g p q w2.heap.size n (fun _ => 0) := ⟨k1.below hb14, hR4, hb1.trans (hb14.mono hsz)⟩
  have ha : Aside w.heap.size g p q w2.heap.size := ⟨by omega, ⟨by omega, by omega⟩, ⟨by omega, by omega⟩, ⟨by omega, by omega⟩⟩
  clear hb1 hb2 hb3 hs3 hk3 hk4 ht4 hb34 hb14 hR4 k1 hkp hkq hlp hlq hp hq hl1 hsz hsz2 hg hpq
  generalize w2.heap.size = r at *
  refine (alive_ _).mono ?_
  rintro e w5 ⟨rfl, hb5⟩
  have h5 := h4.on hb5
  clear h4 hb5
  go_wp2_with fail
  go_loopw [50] (fun iv wr => ∃ (k q : Nat) (c : Nat → Int), k ≤ sn ∧ iv = .int .i64 (k : Int) ∧ PlyAt w wr g p q r n c ∧ Aside w.heap.size g p q r) (fun iv _ => sn - (intOf iv).toNat)
  case atStart => exact ⟨0, q, _, Nat.zero_le _, rfl, h5, ha⟩
  case round =>
    obtain ⟨k, q, c, hk, rfl, hP, ha⟩ := hrel
    clear h5
    have hbs := hP.below.size
    by_cases hlt : k < sn
    · obtain ⟨b, o, rfl, kd, f, m, hkd, hf, hm, e0, e1, e2⟩ := acts_later hl hP.below hlt
      have hkl : (k : Int) < (sn : Int) := by omega
      have el := cell_lt e0
      have hb' : Below wr.heap.size wr (wr.alloc (.cells #[.int .u8 (kd : Int), .int .i64 f, .int .i64 m] 35)) := (Below.refl _ _).alloc (Nat.le_refl _) _
      have hac := Blk.new wr 35 #[.int .u8 (kd : Int), .int .i64 f, .int .i64 m] rfl
      have hP6 := hP.on hb'
      have hgl := hP.al.lt
      have hnd : ¬ PQR p q r wr.heap.size := by
        have l1 := hP.ra.cnt.lt
        have l2 := hP.ra.wait.lt
        have l3 := hP.ra.self.lt
        rintro (e | e | e) <;> omega
      clear hl hb' hP
      go_upto_block 2 with fail
      clear e0 e1 e2 el
      have hnw : w.heap.size ≤ wr.heap.size := hbs
      generalize wr.alloc (.cells #[.int .u8 (kd : Int), .int .i64 f, .int .i64 m] 35) = w6 at *
      generalize wr.heap.size = d at *
      have a0 := hac.cell (j := 0) (u := .int .u8 (kd : Int)) rfl
      have a1 := hac.cell (j := 1) (u := .int .i64 f) rfl
      have a2 := hac.cell (j := 2) (u := .int .i64 m) rfl
      have kk : 0 ≤ (kd : Int) := by omega
      go_cut [13] (fun okv wc => okv = .bool true ∧ Blk wc d 35 #[.int .u8 (kd : Int), .int .i64 f, .int .i64 m] ∧ ∃ q' c', PlyAt w wc g p q' r n c' ∧ Aside w.heap.size g p q' r)
      case first =>
        have hcs : kd % 4 = 0 ∨ kd % 4 = 1 ∨ kd % 4 = 2 ∨ kd % 4 = 3 := by omega
        rcases hcs with e | e | e | e
        all_goals
          have q4 := mod4 e
          clear e
        · go_wp2_with fail
          refine (take_ g n c _ m hP6.al hm).mono ?_
          rintro e wA ⟨rfl, hA, htA⟩
          have hrA := hP6.ra.tn ha htA
          have hacA := htA.blk hac (by omega)
          have a2 := hacA.cell (j := 2) (u := .int .i64 m) rfl
          go_wp2_with fail
          refine (rtake_ p q r n c _ m hrA hm).mono ?_
          rintro e wB ⟨rfl, hB, hkB⟩
          have hst := hP6.both ha hA htA hB hkB
          have hacB := hkB.blk hacA hnd
          generalize (takeR n c m).1 = F at *
          generalize (takeR n c m).2.1 = E at *
          have qF : (F == F) = true := by simp
          have qE : (E == E) = true := by simp
          go_wp2_with fail
          go_meet
          exact ⟨by simp, hacB, q, _, hst, ha⟩
        · go_wp2_with fail
          go_region_held3 (fun w' => w'.cell? ⟨d, 1, none⟩ = some (.int .i64 f) ∧ w'.cell? ⟨d, 2, none⟩ = some (.int .i64 m))
            (first
              | exact ⟨a1, a2⟩
              | exact ⟨b1, b2⟩
              | exact ⟨b3, b4⟩)
            (first
              | (go_at_call 14
                 refine (share_ g n c _ f m (show Al w6.drew g n c from hP6.al.drew) hf hm).mono ?_
                 rintro e wA ⟨rfl, hA, htA⟩
                 have hacA := htA.blk (show Blk w6.drew d _ _ from hac) (by omega)
                 have b1 := hacA.cell (j := 1) (u := .int .i64 f) rfl
                 have b2 := hacA.cell (j := 2) (u := .int .i64 m) rfl
                 have hrA := (show Ra w6.drew p q r n c from hP6.ra.drew).tn ha htA)
              | (go_at_call 15
                 refine (rshare_ p q r n c _ f m hrA hf hm).mono ?_
                 rintro e wB ⟨rfl, hB, hkB⟩
                 have hacB := hkB.blk hacA hnd
                 have b3 := hacB.cell (j := 1) (u := .int .i64 f) rfl
                 have b4 := hacB.cell (j := 2) (u := .int .i64 m) rfl))
          have hst := hP6.drew.both ha hA htA hB hkB
          go_wp2_with fail
          go_meet
          exact ⟨by simp, hacB, q, _, hst, ha⟩
        · go_wp2_with fail
          refine (drop_ g n c _ f m hP6.al hf hm).mono ?_
          rintro e wA ⟨rfl, hA, htA⟩
          have hrA := hP6.ra.tn ha htA
          have hacA := htA.blk hac (by omega)
          have a1 := hacA.cell (j := 1) (u := .int .i64 f) rfl
          have a2 := hacA.cell (j := 2) (u := .int .i64 m) rfl
          go_wp2_with fail
          refine (rdrop_ p q r n c _ f m hrA hf hm).mono ?_
          rintro e wB ⟨rfl, hB, hkB⟩
          have hst := hP6.both ha hA htA hB hkB
          have hacB := hkB.blk hacA hnd
          generalize (dropR n c f m).1 = F at *
          generalize (dropR n c f m).2.1 = E at *
          have qF : (F == F) = true := by simp
          have qE : (E == E) = true := by simp
          go_wp2_with fail
          go_meet
          exact ⟨by simp, hacB, q, _, hst, ha⟩
        · go_wp2_with fail
          refine (settle_ g n c _ hP6.al).mono ?_
          rintro e wA ⟨rfl, hA, htA⟩
          have hrA := hP6.ra.tn ha htA
          have hacA := htA.blk hac (by omega)
          have hlA := hA.lt
          have hsA := (hP6.below.trans (htA.below ha.ag hP6.below.size)).size
          go_wp2_with fail
          refine (rsettle_ p q r n c _ hrA).mono ?_
          rintro e wB ⟨q', rfl, hB, hq', hkB⟩
          have hst := hP6.both ha hA htA hB hkB
          have hacB := hkB.blk hacA hnd
          have ha' : Aside w.heap.size g p q' r := ⟨ha.ag, ha.ap, ⟨by omega, by omega⟩, ha.ar⟩
          go_wp2_with fail
          go_meet
          exact ⟨by simp, hacB, q', _, hst, ha'⟩
      case rest =>
        obtain ⟨rfl, hacC, q', c', hC, haC⟩ := hcut
        clear hP6 hac a0 a1 a2 ha hnd
        have hdx := hC.al
        have hrx := hC.ra
        have x1 := hacC.cell (j := 1) (u := .int .i64 f) rfl
        go_wp2_with fail
        go_quiet (first
          | (go_at_call 20; exact quiet_back (free_ g n c' _ (hdx.drewN _)))
          | (go_at_call 21; exact quiet_back (rfreeN_ p q' r n c' _ (hrx.drewN _)))
          | (go_at_call 22; exact quiet_back (waiting_ g n c' _ (hdx.drewN _)))
          | (go_at_call 23; exact quiet_back (rwaiting_ p q' r n c' _ (hrx.drewN _)))
          | (go_at_call 24; exact quiet_back (count_ g n c' _ _ (hdx.drewN _)))
          | (go_at_call 25; exact quiet_back (rcount_ p q' r n c' _ _ (hrx.drewN _))))
        go_wp2_with fail
        go_roundw
        case rel => exact ⟨k + 1, q', c', by omega, by go_num, hC.drewN nq, haC⟩
        case measure => simp [intOf]; omega
    · have hkl : (sn : Int) ≤ (k : Int) := by omega
      have hB := hP.below
      go_wp2
      go_ret
      exact ⟨rfl, hB⟩

theorem allocPlays_walk (z : Int) (S : Option Addr) (sn sc : Nat) (l : List ActV) (look : Int) (w : World) (hl : (Shp.slice actShp 24).R w [.slice S sn sc] l) :
    Calls Try.prog 3 #[.int .i64 z, .slice S sn sc, .int .i64 look] w fun e w' => e = .returned (.bool true) ∧ Below w.heap.size w w' := by
  by_cases hz : 1 ≤ z ∧ z ≤ 4096
  · obtain ⟨n, rfl⟩ := Int.eq_ofNat_of_zero_le (show 0 ≤ z by omega)
    exact allocPlays_good n S sn sc l look w (by omega) (by omega) hl (acts_len hl)
  · exact allocPlays_bad z S sn sc look w hz

set_option maxRecDepth 100000 in
theorem allocPlays_lifted (os : Os) (started : os.Started) (H : Type) (enc : TypeId × Value → H) :
    ReturnsInHanded {} Try.checked os 3 .any (Rows.allocPlaysSpec.pre6 enc Try.prog Try.f3 Rows.allocPlaysRow.domain false) (Rows.allocPlaysSpec.post enc Try.prog Try.f3 false true false false) := by
  refine law_lifted (C := Try.checked) (tb := 4) own_ started (by kernel_rfl) Try.func3
    (ChangeSpec.witness6 (enc := enc) (C := Try.checked) false ⟨#[], #[.int .i64 0, .slice none 0 0, .int .i64 0], []⟩ 8 (by kernel_rfl) (by kernel_rfl) (by kernel_rfl) (by kernel_rfl))
    rfl rfl Try.underlying4 laidOut_ (by kernel_rfl) (fun ds h => by match ds, h with | [_, _, _], _ => rfl) ?_
  intro W base args ds p hval0 hA0 _ hsz0
  have hval : ∀ (j : Nat) t v, Try.f3.params[j]? = some t → args[j]? = some v → Value.okWide Try.prog W .any base t v := hval0
  have hA : DataW.TrodAll enc Try.prog W 0 (fun _ => true) true Try.f3.params.toList args.toList ds p := hA0
  have hsz : (DataW.weightsEach Try.prog Try.f3.params.toList ds).all (· ≤ reachBytes) = true := hsz0
  clear hval0 hA0 hsz0
  rw [Try.params3] at hA hval hsz
  obtain ⟨v0, v1, v2, d0, d1, d2, p0, p1, p2, rfl, rfl, rfl, h0, h1, h2⟩ := trodAll_three hA
  obtain ⟨z0, rfl, hz0⟩ := arg_int _ _ Try.underlying3 (hval 0 _ v0 rfl rfl) h0 wf_i64
  obtain ⟨A1, n1, c1, xs1, rfl, r1, b1⟩ := arg_slice ops_acts Try.underlying22 (hval 1 _ v1 rfl rfl) h1 (weight_at hsz (j := 1) rfl rfl)
  obtain ⟨z2, rfl, hz2⟩ := arg_int _ _ Try.underlying3 (hval 2 _ v2 rfl rfl) h2 wf_i64
  exact allocPlays_walk z0 A1 n1 c1 xs1 z2 W r1

/-- AllocPlays, for every input: the statement as it was given. -/
theorem allocPlays_holds : Rows.AllocPlaysSaid :=
  OpenClaim.holds_of_wide 3 Try.f3 rfl rfl rfl rfl rfl rfl rfl ⟨rfl, rfl, rfl, rfl, rfl⟩ rfl rfl rfl rfl rfl (by kernel_rfl) Try.func3 (by kernel_rfl)
    (of_decide_eq_true (by kernel_rfl)) (by unfold Func.isWrapper; first | (rw [if_pos (by decide +kernel)]; kernel_rfl) | (rw [if_neg (by decide +kernel)]; exact ⟨rfl, rfl⟩))
    (fun os started H enc _ => allocPlays_lifted os started H enc)
end Go.Proofs.Ytlkhlbieiogahaa
