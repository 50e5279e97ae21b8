/- LandRefused: a record that is refused turns nothing, and a stream of another shard, map, base or size is refused: for all shards, maps, sizes, scripts and heads. -/
import Derived.Test.YtganoklclnbjkaaLanAr
import Derived.BigQuiet
set_option linter.all false
namespace Go.Proofs.Ytganoklclnbjkaa
open Go.ChangeShapes Go.WideShapes Go.ChangeAt Go.RowKit
namespace Lan
open Str (Rec mayB FitR Rdt Rcl RC ra rv RecV recShp toRec rec_arr ops_rec k8 rc_of own_ laidOut_)
open Blo (I64 GotN AnsN)
theorem takS_n (s : BS) (i : Int) (r : Rec) : (takS s i r).n = s.n ∧ (takS s i r).sh = s.sh ∧ (takS s i r).ve = s.ve := by
  unfold takS proS landS
  split
  · split
    · exact ⟨rfl, rfl, rfl⟩
    · split <;> exact ⟨rfl, rfl, rfl⟩
  · exact ⟨rfl, rfl, rfl⟩
/-- A berth of these. -/
def BeH (w : World) (b : Nat) (x y : Int) (n : Nat) : Prop := ∃ s, Be w b (fun _ => True) s ∧ s.n = n ∧ s.sh = x ∧ s.ve = y
theorem quiet_bk {f : FuncId} {args : Array Value} {w : World} {n : Nat} {v : Value} (h : Calls Try.prog f args (w.drewN n) fun e w' => e = .returned v ∧ w.drewN n = w') : Calls Try.prog f args (w.drewN n) fun e w'' => e = .returned v ∧ ∃ m, w'' = w.drewN m :=
  h.mono fun _ _ ⟨h1, h2⟩ => ⟨h1, n, h2.symm⟩
section
variable (w : World)
theorem words_same (A B : Option Addr) (n m c d : Nat) (a : List Nat) (ha : Ns w A n a) (hb : Ns w B m a) (hn : n ≤ 9223372036854775807) :
    Calls Try.prog 17 #[.slice A n c, .slice B m d] w fun e w' => e = .returned (.bool true) ∧ ∃ k, w' = w.drewN k := by
  have := Blo.words_ w A B n m c d a a ha hb hn
  rwa [decide_eq_true rfl] at this
set_option maxRecDepth 100000 in
set_option maxHeartbeats 16000000 in
theorem refused_walk (x y z : Int) (hx : I64 x) (hy : I64 y) (hz : I64 z) (S : Option Addr) (n c : Nat) (l : List ActV) (hl : (Shp.slice actShp 96).R w [.slice S n c] l) (r : Rec) (X : Option Addr) (m d : Nat) (hr : Rdt w r X m d) :
    Calls Try.prog 5 #[.agg #[.int .i64 x, .int .i64 y, .int .i64 z], .slice S n c, .agg (ra r (.slice X m d))] w fun e w' => e = .returned (.bool true) ∧ Below w.heap.size w w' := by
  have Hn := Lib.hid (acts_len hl)
  obtain ⟨w1, hw1⟩ : ∃ w1, w.alloc (.cells #[.int .i64 x, .int .i64 y, .int .i64 z] 49) = w1 := ⟨_, rfl⟩
  have hs1 : w1.heap.size = w.heap.size + 1 := by rw [← hw1]; simp
  have hb1 : Below w.heap.size w w1 := by rw [← hw1]; exact (Below.refl _ _).alloc (Nat.le_refl _) _
  have hn1 : Blk w1 w.heap.size 49 #[.int .i64 x, .int .i64 y, .int .i64 z] := by rw [← hw1]; exact Blk.new w _ _ rfl
  obtain ⟨w2, hw2⟩ : ∃ w2, w1.alloc (.cells (ra r (.slice X m d)) 29) = w2 := ⟨_, rfl⟩
  have hs2 : w2.heap.size = w.heap.size + 2 := by rw [← hw2]; simp [hs1]
  have hb2 : Below w.heap.size w w2 := by rw [← hw2]; exact hb1.alloc hb1.size _
  have hn2 : Blk w2 w.heap.size 49 #[.int .i64 x, .int .i64 y, .int .i64 z] := by rw [← hw2]; exact hn1.alloc _
  have hr2 : Blk w2 (w.heap.size + 1) 29 (ra r (.slice X m d)) := by rw [← hw2]; exact Blk.new w1 _ _ hs1.symm
  have hd2 := hr.below hb2
  have a0 := hn2.cell (j := 0) (u := .int .i64 x) rfl
  have a1 := hn2.cell (j := 1) (u := .int .i64 y) rfl
  have a2 := hn2.cell (j := 2) (u := .int .i64 z) rfl
  clear hn1 hb1
  by_cases hgood : 0 ≤ x ∧ 0 ≤ y ∧ 0 ≤ z ∧ z ≤ 1024
  · obtain ⟨h0x, h0y, h0z, hz1⟩ := hgood
    obtain ⟨N, rfl⟩ := Int.eq_ofNat_of_zero_le h0z
    have hN : N ≤ 1024 := by omega
    have Hx := Lib.hid h0x
    have Hy := Lib.hid h0y
    have Hx2 := Lib.hid hx
    have Hy2 := Lib.hid hy
    clear h0x h0y h0z hz1 hx hy hz
    go_enter Try.func5, Try.ntmps5
    go_wp2_with fail
    refine (new_ w2 x y N Hx.out Hx2.out Hy.out Hy2.out hN).mono ?_
    rintro e w3 ⟨b, rfl, hB3, hbb, hb3⟩
    go_wp2_with fail
    refine (alive_ w3).mono ?_
    rintro e w4 ⟨rfl, hb4⟩
    have hB4 : BeH w4 b x y N := ⟨_, hB3.below hb4, rfl, rfl, rfl⟩
    have hb24 : Below w2.heap.size w2 w4 := below_step hb3 hb4 (Nat.le_refl _)
    clear hB3 hb3 hb4
    go_wp2_with fail
    go_loopw [44] (fun iv wr => ∃ k : Nat, k ≤ n ∧ iv = .int .i64 (k : Int) ∧ BeH wr b x y N ∧ Below w2.heap.size w2 wr) (fun iv _ => n - (intOf iv).toNat)
    case atStart => exact ⟨0, Nat.zero_le _, rfl, hB4, hb24⟩
    case round =>
      obtain ⟨k, hk, rfl, ⟨s, hBe, hsn, hssh, hsve⟩, hb⟩ := hrel
      have e2 := (hb.cell (cell_lt a2)).trans a2
      have hnm := Hn.out
      clear hB4 hb24
      by_cases hlt : k < n
      · have hil : (k : Int) < (n : Int) := by omega
        have hi0 : (0 : Int) ≤ (k : Int) := by omega
        obtain ⟨bs, o, Y, p, q, a, rfl, hai, ck, ci, hrv, hdY⟩ := acts_later hl (hb2.trans (hb.mono hb2.size)) hlt
        obtain ⟨rr, hrr⟩ : ∃ rr, toRec a.2.2.1 = rr := ⟨_, rfl⟩
        rw [hrr] at hrv hdY
        obtain ⟨ii, hii⟩ : ∃ ii, a.2.1 = ii := ⟨_, rfl⟩
        rw [hii] at hai ci
        obtain ⟨kd, hkd⟩ : ∃ kd : Int, (a.1.toNat : Int) = kd := ⟨_, rfl⟩
        rw [hkd] at ck
        clear hrr hii hkd
        have v0 := hrv 0 _ rfl
        have v1 := hrv 1 _ rfl
        have v2 := hrv 2 _ rfl
        have v3 := hrv 3 _ rfl
        have v4 := hrv 4 _ rfl
        have v5 := hrv 5 _ rfl
        have v6 := hrv 6 _ rfl
        have v7 := hrv 7 _ rfl
        simp only [Nat.zero_add, Nat.reduceAdd] at v0 v1 v2 v3 v4 v5 v6 v7
        obtain ⟨wa, hwa⟩ : ∃ wa, wr.alloc (.cells #[.int .u8 kd, .int .i64 ii, .int .i64 rr.k, .int .i64 rr.sh, .int .i64 rr.sn, .int .i64 rr.ba, .int .i64 rr.ma, .int .i64 rr.off, .int .i64 rr.len, .slice Y p q] 52) = wa := ⟨_, rfl⟩
        have hba : Below wr.heap.size wr wa := by rw [← hwa]; exact (Below.refl _ _).alloc (Nat.le_refl _) _
        have hna : Blk wa wr.heap.size 52 #[.int .u8 kd, .int .i64 ii, .int .i64 rr.k, .int .i64 rr.sh, .int .i64 rr.sn, .int .i64 rr.ba, .int .i64 rr.ma, .int .i64 rr.off, .int .i64 rr.len, .slice Y p q] := by rw [← hwa]; exact Blk.new _ _ _ rfl
        have hwaz := hba.size
        have hBa := hBe.below hba
        have hda := hdY.below hba
        have hB2a : Below w2.heap.size w2 wa := below_step hb hba (Nat.le_refl _)
        clear hrv hdY hl hr
        go_wp2_with fail
        refine (coming_ wa b _ s hBa).mono ?_
        rintro e w5 ⟨rfl, k5, rfl⟩
        go_wp2_with fail
        refine (snap_ _ b _ s (hBa.drewN k5)).mono ?_
        rintro e w6 ⟨rfl, rfl⟩
        have hrd := bread_ (wa.drewN k5) b _ s (hBa.drewN k5)
        rw [hsn] at hrd
        have f2 : (wa.drewN k5).cell? ⟨w.heap.size, 2, none⟩ = some (.int .i64 (N : Int)) := (hba.cell (cell_lt e2)).trans e2
        clear v0 v1 v2 v3 v4 v5 v6 v7 ck ci
        go_wp2_with fail
        refine hrd.mono ?_
        rintro e w7 ⟨A7, m7, c7, rfl, hG7, hb7⟩
        have hba7 : Below wa.heap.size wa w7 := Blo.below_ofDrewN hb7
        have hB7 := hBa.below hba7
        have hn7 := hna.keep hba7
        have hd7 := hda.below hba7
        have hB27 : Below w2.heap.size w2 w7 := below_step hB2a hba7 (Nat.le_refl _)
        have g1 := hn7.cell (j := 1) (u := .int .i64 ii) rfl
        have g2 := hn7.cell (j := 2) (u := .int .i64 rr.k) rfl
        have g3 := hn7.cell (j := 3) (u := .int .i64 rr.sh) rfl
        have g4 := hn7.cell (j := 4) (u := .int .i64 rr.sn) rfl
        have g5 := hn7.cell (j := 5) (u := .int .i64 rr.ba) rfl
        have g6 := hn7.cell (j := 6) (u := .int .i64 rr.ma) rfl
        have g7 := hn7.cell (j := 7) (u := .int .i64 rr.off) rfl
        have g8 := hn7.cell (j := 8) (u := .int .i64 rr.len) rfl
        have g9 := hn7.cell (j := 9) (u := .slice Y p q) rfl
        have hT := take_ w7 b _ s ii rr Y p q hB7 (fun _ _ => trivial) hai hd7
        have hz27 := hB27.size
        clear hrd hBa hda hba hna hb7 hba7 hB2a
        by_cases hE : takE s ii rr = 0
        · rw [hE] at hT
          go_wp2_with fail
          refine hT.mono ?_
          rintro e w8 ⟨rfl, hB8, hg8⟩
          obtain ⟨t1, t2, t3⟩ := takS_n s ii rr
          have hB28 : Below w2.heap.size w2 w8 := hB27.grown hg8 hz27 (fun j hj => by injection hj with hj; omega)
          have hR8 : BeH w8 b x y N := ⟨_, hB8, t1.trans hsn, t2.trans hssh, t3.trans hsve⟩
          clear hT hg8 hB8
          go_wp2
          go_roundw
          case rel => exact ⟨k + 1, by omega, by go_num, hR8, hB28⟩
          case measure => simp [intOf]; omega
        · obtain ⟨er, her⟩ : ∃ er, takE s ii rr = er := ⟨_, rfl⟩
          rw [her, takS_no hE] at hT
          rw [her] at hE
          have hE2 : (er == 0) = false := by simpa using hE
          clear her hE
          go_wp2_with fail
          refine hT.mono ?_
          rintro e w8 ⟨rfl, hB8, hg8⟩
          have hB28 : Below w2.heap.size w2 w8 := hB27.grown hg8 hz27 (fun j hj => by injection hj with hj; omega)
          have hG8 : GotN w8 (wa.drewN k5).heap.size A7 m7 c7 s.vol := ⟨own_grown hG7.own hg8 (fun j hj e => by injection e with e; have := (hG7.own.lt j hj).1; have := hBe.lt; have hwz : wr.heap.size ≤ (wa.drewN k5).heap.size := hwaz; omega), hG7.low⟩
          have h82 := (hB28.cell (cell_lt a2)).trans a2
          clear hT g1 g2 g3 g4 g5 g6 g7 g8 g9 hg8 hG7 hB7 hd7 hn7
          go_wp2_with fail
          refine (coming_ w8 b _ s hB8).mono ?_
          rintro e w9 ⟨rfl, k9, rfl⟩
          have hrd := bread_ (w8.drewN k9) b _ s (hB8.drewN k9)
          rw [hsn] at hrd
          go_wp2_with fail
          refine hrd.mono ?_
          rintro e w10 ⟨A10, m10, c10, rfl, hG10, hb10⟩
          have hba10 : Below w8.heap.size w8 w10 := Blo.below_ofDrewN hb10
          have hB10 := hB8.below hba10
          have hG8' := hG8.keep hba10
          have hBw10 : Below w2.heap.size w2 w10 := below_step hB28 hba10 (Nat.le_refl _)
          have hm7 : m7 ≤ 9223372036854775807 := by have := hG8.bounds; omega
          clear hrd hb10 hba10 hG8
          go_wp2_with fail
          refine (snap_ w10 b _ s hB10).mono ?_
          rintro e w11 ⟨rfl, rfl⟩
          go_wp2_with fail
          refine (words_same w10 A7 A10 m7 m10 c7 c10 s.vol hG8'.ns hG10.ns hm7).mono ?_
          rintro e w12 ⟨rfl, k12, rfl⟩
          have hR12 : BeH (w10.drewN k12) b x y N := ⟨_, hB10.drewN k12, hsn, hssh, hsve⟩
          have hBw12 := below_drewN hBw10 k12
          clear hG10 hG8' hB10 hB8
          go_wp2
          go_roundw
          case rel => exact ⟨k + 1, by omega, by go_num, hR12, hBw12⟩
          case measure => simp [intOf]; omega
      · have hin : (n : Int) ≤ (k : Int) := by omega
        have hd := hd2.below hb
        have hrr := hr2.keep hb
        obtain ⟨v0, v1, v2, v3, v4, v5, v6, v7⟩ := k8 hrr
        clear hl hr hnm
        go_wp2_with fail
        refine (drop_ wr b _ s hBe).mono ?_
        rintro e w5 ⟨rfl, hB5, hg5⟩
        have hz2 := hb.size
        have hne2 : some (w.heap.size + 1) ≠ some b := fun e => by injection e with e; omega
        have hb5 : Below w2.heap.size w2 w5 := hb.grown hg5 hz2 (fun j hj => by injection hj with hj; omega)
        have hr5 := hrr.grown hg5 hne2
        have hd5 := hd2.below hb5
        obtain ⟨q0, q1, q2, q3, q4, q5, q6, q7⟩ := k8 hr5
        have hT := take_ w5 b _ (dropS s) 0 r X m d hB5 (fun _ _ => trivial) zi64 hd5
        have hz5 := hb5.size
        clear v0 v1 v2 v3 v4 v5 v6 v7 hrr hd hBe hg5 hB5
        by_cases hE : takE (dropS s) 0 r = 0
        · rw [hE] at hT
          have hct : (dropS s).c.ct = 0 := rfl
          have hbe : begE (dropS s) 0 r = 0 := by
            have h2 := hE
            unfold takE at h2
            rw [if_neg (by omega)] at h2
            split at h2
            · cases h2
            · exact h2
          obtain ⟨-, e1, m2, m3, m4, m5, e6, m7⟩ := beg_ok hbe
          have hnum : (takS (dropS s) 0 r).num = s.num := by unfold takS; rw [if_pos hE, if_pos hct]; rfl
          have e2' : r.sh = x := m2.trans hssh
          have e3 : r.len = (N : Int) := by rw [m3, ← hsn]; rfl
          have e4 : r.ma = y := m4.trans hsve
          have e5 : ¬ r.sn = s.num := m5
          have e7 : r.ba = 0 ∨ r.ba = s.num := m7
          obtain ⟨nn, hnn⟩ : ∃ nn, s.num = nn := ⟨_, rfl⟩
          rw [hnn] at e5 e7 hnum
          have b1 : (r.k != 1) = false := by simpa using e1
          have b2 : (r.sh != x) = false := by simpa using e2'
          have b3 : (r.len != (N : Int)) = false := by simpa using e3
          have b4 : (r.ma != y) = false := by simpa using e4
          have b5 : (r.sn == nn) = false := by simpa using e5
          have b6 : (r.sn == 0) = false := by simpa using e6
          have Hnum := Lib.hid hnum
          clear m2 m3 m4 m5 m7
          clear hE hbe e1 e2' e3 e4 e5 e6 hnn hct hsn hssh hsve hnum
          go_wp2_with fail
          refine hT.mono ?_
          rintro e w9 ⟨rfl, hB9, hg9⟩
          have hne1 : some w.heap.size ≠ some b := fun e => by injection e with e; omega
          have hb9 : Below w2.heap.size w2 w9 := hb5.grown hg9 hz5 (fun j hj => by injection hj with hj; omega)
          have hr9 := hr5.grown hg9 hne2
          have hn9 := hn2.keep hb9
          have hwB : Below w.heap.size w w9 := hb2.trans (hb9.mono hb2.size)
          obtain ⟨v0, v1, v2, v3, v4, v5, v6, v7⟩ := k8 hr9
          have p0 := hn9.cell (j := 0) (u := .int .i64 x) rfl
          have p1 := hn9.cell (j := 1) (u := .int .i64 y) rfl
          have p2 := hn9.cell (j := 2) (u := .int .i64 (N : Int)) rfl
          have hS := fun k => snap_ (w9.drewN k) b _ _ (hB9.drewN k)
          rw [Hnum.out] at hS
          clear hT hg9 hB9 q0 q1 q2 q3 q4 q5 q6 q7 hr5 hd5 hr9 hn9
          by_cases hba : r.ba = 0
          · have b7 : (r.ba != 0) = false := by simpa using hba
            clear hba e7
            go_wp2_with fail
            go_quiet (first
              | (go_at_call 16; exact quiet_bk (hS _)))
            go_wp2
            go_ret
            exact ⟨rfl, below_drewN hwB _⟩
          · have b7 : (r.ba != 0) = true := by simpa using hba
            have b8 : (r.ba != nn) = false := by simpa using (show r.ba = nn by omega)
            clear hba e7
            go_wp2_with fail
            go_quiet (first
              | (go_at_call 16; exact quiet_bk (hS _)))
            go_wp2
            go_ret
            exact ⟨rfl, below_drewN hwB _⟩
        · obtain ⟨er, her⟩ : ∃ er, takE (dropS s) 0 r = er := ⟨_, rfl⟩
          rw [her] at hT hE
          have hE2 : (er == 0) = false := by simpa using hE
          clear her hE hsn hssh hsve
          go_wp2_with fail
          refine hT.mono ?_
          rintro e w9 ⟨rfl, hB9, hg9⟩
          have hb9 : Below w2.heap.size w2 w9 := hb5.grown hg9 hz5 (fun j hj => by injection hj with hj; omega)
          have hwB : Below w.heap.size w w9 := hb2.trans (hb9.mono hb2.size)
          clear hT hg9 hB9 q0 q1 q2 q3 q4 q5 q6 q7 hr5 hd5
          go_wp2_with fail
          go_quiet (fail)
          go_wp2
          go_ret
          exact ⟨rfl, below_drewN hwB _⟩
  · clear hl hr
    go_enter Try.func5, Try.ntmps5
    go_wp2_with fail
    refine (new_bad w2 x y z hz hgood).mono ?_
    rintro e w3 ⟨rfl, rfl⟩
    clear hgood
    go_wp2_with fail
    refine (alive_ w2).mono ?_
    rintro e w4 ⟨rfl, hb4⟩
    have hB4 := below_step hb2 hb4 (Nat.le_refl _)
    go_wp2
    go_ret
    exact ⟨rfl, hB4⟩
end
end Lan
open Lan Str
set_option maxRecDepth 100000 in
theorem landRefused_lifted (os : Os) (started : os.Started) (H : Type) (enc : TypeId × Value → H) :
    ReturnsInHanded {} Try.checked os 5 .any (Rows.landRefusedSpec.pre6 enc Try.prog Try.f5 Rows.landRefusedRow.domain false) (Rows.landRefusedSpec.post enc Try.prog Try.f5 false true false false) := by
  refine law_lifted (C := Try.checked) (tb := 4) own_ started (by kernel_rfl) Try.func5
    (ChangeSpec.witness6 (enc := enc) (C := Try.checked) false ⟨#[], #[.agg #[.int .i64 0, .int .i64 0, .int .i64 0], .slice none 0 0, .agg #[.int .i64 0, .int .i64 0, .int .i64 0, .int .i64 0, .int .i64 0, .int .i64 0, .int .i64 0, .slice none 0 0]], []⟩ 8 (by kernel_rfl) (by kernel_rfl) (by kernel_rfl) (by kernel_rfl))
    rfl rfl Try.underlying4 laidOut_ (by kernel_rfl) (fun ds h => by match ds, h with | [_, _, _], _ => rfl) ?_
  intro W base args ds p hval0 hA0 _ hsz0
  have hval : ∀ (j : Nat) t v, Try.f5.params[j]? = some t → args[j]? = some v → Value.okWide Try.prog W .any base t v := hval0
  have hA : DataW.TrodAll enc Try.prog W 0 (fun _ => true) true Try.f5.params.toList args.toList ds p := hA0
  have hsz : (DataW.weightsEach Try.prog Try.f5.params.toList ds).all (· ≤ reachBytes) = true := hsz0
  clear hval0 hA0 hsz0
  rw [Try.params5] at hA hval hsz
  obtain ⟨v0, v1, v2, d0, d1, d2, p0, p1, p2, rfl, rfl, rfl, h0, h1, h2⟩ := trodAll_three hA
  obtain ⟨cs0, a0, rfl, r0, b0⟩ := arg_arr ops_three Try.underlying49 (hval 0 _ v0 rfl rfl) h0 (weight_at hsz (j := 0) rfl rfl)
  obtain ⟨A1, n1, c1, xs1, rfl, r1, b1⟩ := arg_slice ops_acts Try.underlying50 (hval 1 _ v1 rfl rfl) h1 (weight_at hsz (j := 1) rfl rfl)
  obtain ⟨cs2, a2, rfl, r2, b2⟩ := arg_struct ops_rec Try.underlying29 (hval 2 _ v2 rfl rfl) h2 (weight_at hsz (j := 2) rfl rfl)
  obtain ⟨rfl, hx, hy, hz⟩ := three_arr r0
  obtain ⟨X, m, d, rfl, hd⟩ := rec_arr r2
  exact refused_walk _ _ _ _ hx hy hz A1 n1 c1 xs1 r1 _ X m d hd

/-- LandRefused, for every input: the statement as it was given. -/
theorem landRefused_holds : Rows.LandRefusedSaid :=
  OpenClaim.holds_of_wide 5 Try.f5 rfl rfl rfl rfl rfl rfl rfl ⟨rfl, rfl, rfl, rfl, rfl⟩ rfl rfl rfl rfl rfl (by kernel_rfl) Try.func5 (by kernel_rfl)
    (of_decide_eq_true (by kernel_rfl)) (by unfold Func.isWrapper; first | (rw [if_pos (by decide +kernel)]; kernel_rfl) | (rw [if_neg (by decide +kernel)]; exact ⟨rfl, rfl⟩))
    (fun os started H enc _ => landRefused_lifted os started H enc)
end Go.Proofs.Ytganoklclnbjkaa
