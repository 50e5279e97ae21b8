/- Package wal: write and read a sealed sector; a head out of a sector's bytes. -/
import Derived.Test.YtlpbdnncbinbmaaWalM
import Derived.Test.YtlpbdnncbinbmaaDiskS
import Derived.Test.YtlpbdnncbinbmaaSumWb
import Derived.Test.YtlpbdnncbinbmaaPackT
import Derived.Test.YtlpbdnncbinbmaaPackWb
namespace Go.Proofs.Ytlpbdnncbinbmaa
open Go.RowKit Go.Maps

theorem info_a60 : (Try.prog.info? 108).map (fun i => (i.zero, i.size, i.bytes)) = some (some (.agg (bvs (List.replicate 60 0)).toArray), 60, 60) := by kernel_rfl
theorem fill_eq {xs : List UInt8} {n : Nat} (hn : n = xs.length) : bvs xs ++ (bvs (List.replicate 60 0)).drop n = bvs (fill60 xs) := by
  subst hn
  have h : (bvs (List.replicate 60 0)).drop xs.length = bvs (List.replicate (60 - xs.length) 0) := by
    unfold bvs
    rw [List.map_replicate, List.drop_replicate, List.map_replicate]
  rw [h, ← bvs_append]
  rfl

set_option maxRecDepth 100000 in
set_option maxHeartbeats 1000000 in
theorem wwrite_ (g : Nat) (s : DS) (i : Nat) (A : Option Addr) (n c : Nat) (xs : List UInt8) (w : World) (h : Dk w g s) (hx : Bs w A n xs) (hA : A = none → n = 0 ∧ c = 0) (hn : n ≤ 60) :
    Calls Try.prog 45 #[.pointer (some ⟨g + 2, 0, none⟩), .int .i64 (i : Int), .slice A n c] w fun e w' => e = .returned (.int .i64 ((s.write i (secOf xs)).1 : Int)) ∧ Dk w' g (s.write i (secOf xs)).2 ∧ Tn g (g + 3) w w' := by
  obtain ⟨iz, hiz, hiz0, _, _⟩ := info_parts info_a60
  have hgl := h.lt
  go_enter Try.func45, Try.ntmps45
  go_wp2_with (first
    | (refine wpList_alloc_blk _ rfl 108 rfl iz _ hiz hiz0 ?_
       intro w2 hk2 hb2 hs2
       have hx2 : Bs w2 A n xs := hx.below hb2)
    | (refine wpList_copy_blk _ rfl _ _ 36 rfl w.heap.size 108 _ hk2 5 Try.underlying36 size_u8 60 60 rfl A n c xs hx2 (fun e => (hA e).1) (by simpa using hn) rfl rfl ?_
       intro z w3 hk3 ht3)
    | fail)
  have hk : Blk w3 w.heap.size 108 (bvs (fill60 xs)).toArray := by
    have := hk3
    rwa [show (Value.agg (bvs (List.replicate 60 0)).toArray).cells.toList = bvs (List.replicate 60 0) from rfl, fill_eq hx.len] at this
  have hB3 : Below w.heap.size w w3 := hb2.trans (ht3.below (Nat.le_refl _) hb2.size)
  have h3 : Dk w3 g s := h.below hB3
  have hf := fill60_length (b := xs) (by rw [← hx.len]; exact hn)
  have hbs := bs_blk hk
  rw [hf] at hbs
  clear hk3 ht3 hk2 hb2 hs2 hx2
  refine (seal_ _ _ _ _ _ hbs (fun e => by cases e) (Nat.le_refl _) (by omega) (by omega)).mono ?_
  rintro e w4 ⟨v, rfl, hown, hB4⟩
  obtain ⟨A2, c2, rfl, hc2, hm2, ha2⟩ := own_form hown
  have hs4 := hB3.size
  have hX : ∀ a, A2 = some a → 0 < 60 + 4 → a.block < g ∨ g + 3 ≤ a.block := fun a ha _ => by
    have := (hown.lt a.block (by rw [ha]; rfl)).1
    omega
  go_wp2_with fail
  refine (write_ g s (i : Int) A2 (60 + 4) c2 (secOf xs) w4 (h3.below hB4) (bs_own hown) ha2 hc2 hX).mono ?_
  rintro e w5 ⟨rfl, h5, ht5⟩
  go_wp2
  go_ret
  exact ⟨rfl, h5, ((Tn.ofBelow hB3 (Nat.le_refl _)).trans (Tn.ofBelow hB4 (Nat.le_refl _))).trans ht5⟩

theorem openL_le {x : List UInt8} (h : x.length = 64) : (openL x).length ≤ 64 := by unfold openL; split <;> simp; omega
/-- What read gives of sector i. -/
def rdE (s : DS) (i : Nat) : Int := if s.on = true then (if okSum (s.look i) = true then 0 else 5) else 8
def rdL (s : DS) (i : Nat) : List UInt8 := if s.on = true then openL (s.look i) else []
set_option maxRecDepth 100000 in
set_option maxHeartbeats 1000000 in
theorem wread_ (g : Nat) (s : DS) (i : Nat) (w : World) (h : Dk w g s) (hi : i < s.n) :
    Calls Try.prog 48 #[.pointer (some ⟨g + 2, 0, none⟩), .int .i64 (i : Int)] w fun e w' => ∃ A n c, e = .returned (.tuple #[.slice A n c, .int .i64 (rdE s i)]) ∧ Bs w' A n (rdL s i) ∧ (A = none → n = 0 ∧ c = 0) ∧ n ≤ 64 ∧ n ≤ c ∧ c ≤ maxLen ∧ (∀ a, A = some a → w.heap.size ≤ a.block) ∧ Below w.heap.size w w' := by
  have hh : s.has (i : Int) := ⟨by omega, by omega⟩
  have hr := read_ g s (i : Int) w h
  cases ho : s.on with
  | false =>
    have e1 : s.read (i : Int) = ([], 8) := by simp [DS.read, hh, ho]
    rw [e1] at hr
    have HE := Lib.hid (show rdE s i = 8 by simp [rdE, ho])
    have HL := Lib.hid (show rdL s i = [] by simp [rdL, ho])
    clear e1 ho
    go_enter Try.func48, Try.ntmps48
    go_wp2_with fail
    refine hr.mono ?_
    rintro e w1 ⟨v, rfl, hg, _, hb⟩
    go_wp2
    go_ret2
    rw [HE.out, HL.out]
    exact ⟨none, 0, 0, rfl, Bs.nil, fun _ => ⟨rfl, rfl⟩, Nat.zero_le _, Nat.le_refl _, Nat.zero_le _, fun a ha => (by cases ha), hb⟩
  | true =>
    have e1 : s.read (i : Int) = (s.look i, 0) := by simp [DS.read, hh, ho]
    rw [e1] at hr
    cases hk : okSum (s.look i) with
    | false =>
      have HE := Lib.hid (show rdE s i = 5 by simp [rdE, ho, hk])
      have HL := Lib.hid (show rdL s i = [] by simp [rdL, ho, openL, hk])
      have HO := Lib.hid (show openE (s.look i) = 4 by simp [openE, hk])
      clear e1 ho hk
      go_enter Try.func48, Try.ntmps48
      go_wp2_with fail
      refine hr.mono ?_
      rintro e w1 ⟨v, rfl, hg, hl, hb⟩
      have hl := hl trivial
      rcases hg with ⟨h0, _⟩ | ⟨q, rfl, _, hq, hbk⟩
      · rw [h0] at hl; cases hl
      have hbs := bs_blk hbk
      rw [hl] at hbs
      go_wp2_with fail
      refine (open_ _ _ 64 _ _ hbs (fun e => by cases e) (Nat.le_refl _) (by omega) (by omega)).mono ?_
      rw [HO.out]
      rintro e w2 ⟨v, rfl, hown, hb2⟩
      go_wp2
      go_ret2
      rw [HE.out, HL.out]
      exact ⟨none, 0, 0, rfl, Bs.nil, fun _ => ⟨rfl, rfl⟩, Nat.zero_le _, Nat.le_refl _, Nat.zero_le _, fun a ha => (by cases ha), hb.trans (hb2.mono hb.size)⟩
    | true =>
      have HE := Lib.hid (show rdE s i = 0 by simp [rdE, ho, hk])
      have HL := Lib.hid (show rdL s i = openL (s.look i) by simp [rdL, ho])
      have HO := Lib.hid (show openE (s.look i) = 0 by simp [openE, hk])
      clear e1 ho hk
      go_enter Try.func48, Try.ntmps48
      go_wp2_with fail
      refine hr.mono ?_
      rintro e w1 ⟨v, rfl, hg, hl, hb⟩
      have hl := hl trivial
      rcases hg with ⟨h0, _⟩ | ⟨q, rfl, _, hq, hbk⟩
      · rw [h0] at hl; cases hl
      have hbs := bs_blk hbk
      rw [hl] at hbs
      go_wp2_with fail
      refine (open_ _ _ 64 _ _ hbs (fun e => by cases e) (Nat.le_refl _) (by omega) (by omega)).mono ?_
      rw [HO.out]
      rintro e w2 ⟨v, rfl, hown, hb2⟩
      obtain ⟨A2, c2, rfl, hc2, hm2, ha2⟩ := own_form hown
      have hs := hb.size
      go_wp2
      go_ret2
      rw [HE.out, HL.out]
      refine ⟨A2, _, c2, rfl, bs_own hown, ha2, openL_le hl, hc2, hm2, fun a ha => ?_, hb.trans (hb2.mono hs)⟩
      have := (hown.lt a.block (by rw [ha]; rfl)).1
      omega

set_option maxRecDepth 100000 in
set_option maxHeartbeats 1000000 in
theorem parse_ (A : Option Addr) (n c : Nat) (xs : List UInt8) (w : World) (hx : Bs w A n xs) (hA : A = none → n = 0 ∧ c = 0) (hnc : n ≤ c) (hc : c ≤ 9223372036854775807) (hn : n ≤ 140737488351300) :
    Calls Try.prog 49 #[.slice A n c] w fun e w' => e = .returned (.agg #[.int .i64 ((parseL xs).1 : Int), .int .i64 ((parseL xs).2.1 : Int), .int .i64 ((parseL xs).2.2 : Int)]) ∧ Below w.heap.size w w' := by
  have Hn := Lib.hid hx.len
  have hxl : xs.length ≤ 140737488355328 := by have := hx.len; omega
  have hq : Blk (w.alloc (.cells #[.int .i64 0, .int .i64 0, .int .i64 0] 76)) w.heap.size 76 #[.int .i64 0, .int .i64 0, .int .i64 0] := Blk.new _ _ _ rfl
  obtain ⟨m, s1, e0⟩ : ∃ m s1, rGet xs ⟨0, 0, 0⟩ = (m, s1) := ⟨_, _, rfl⟩
  obtain ⟨t, s2, e1⟩ : ∃ t s2, rInt xs topN s1 = (t, s2) := ⟨_, _, rfl⟩
  obtain ⟨k, s3, e2⟩ : ∃ k s3, rInt xs topN s2 = (k, s3) := ⟨_, _, rfl⟩
  obtain ⟨d, s4, e3⟩ : ∃ d s4, rInt xs 7 s3 = (d, s4) := ⟨_, _, rfl⟩
  have hP : parseL xs = if m ≠ mark then (0, 0, 0) else if s4.e = 0 ∧ s4.f = 0 then (t, k, d) else (0, 0, 0) := by
    unfold parseL
    rw [e0]
    simp only
    rw [e1]
    simp only
    rw [e2]
    simp only
    rw [e3]
  have hB0 : Below w.heap.size w (w.alloc (.cells #[.int .i64 0, .int .i64 0, .int .i64 0] 76)) := (Below.refl _ _).alloc (Nat.le_refl _) _
  have cg := fun (br : Nat) (w : World) (h : Rs w br xs ⟨0, 0, 0⟩) => get_ br xs ⟨0, 0, 0⟩ w h hxl
  have c1 := fun (br : Nat) (w : World) (h : Rs w br xs s1) => int_ br xs s1 topN w h hxl (by decide)
  have c2 := fun (br : Nat) (w : World) (h : Rs w br xs s2) => int_ br xs s2 topN w h hxl (by decide)
  have c3 := fun (br : Nat) (w : World) (h : Rs w br xs s3) => int_ br xs s3 7 w h hxl (by decide)
  rw [e0] at cg
  rw [e1] at c1
  rw [e2] at c2
  rw [e3] at c3
  clear e0 e1 e2 e3
  by_cases hm : m = mark
  · have hP : parseL xs = if s4.e = 0 ∧ s4.f = 0 then (t, k, d) else (0, 0, 0) := by rw [hP, if_neg (by simp [hm])]
    have hm' : (m : Int) = 8746399990351620727 := by rw [hm]; rfl
    by_cases hf : s4.e = 0 ∧ s4.f = 0
    · have HP := Lib.hid (show parseL xs = (t, k, d) by rw [hP, if_pos hf])
      have f1 : (s4.e : Int) = 0 := by omega
      have f2 : (s4.f : Int) = 0 := by omega
      clear hP hf hm
      go_enter Try.func49, Try.ntmps49
      go_wp2_with fail
      refine (pnew_ A n c xs _ (hx.alloc _) hA hnc hc hn).mono ?_
      rintro e w1 ⟨br, rfl, hbr, hR, hb1⟩
      simp only [World.size_alloc] at hbr hb1
      have hz1 : w.heap.size + 1 ≤ w1.heap.size := by have := hb1.size; simpa using this
      go_wp2_with fail
      refine (cg _ _ hR).mono ?_
      rintro e w2 ⟨rfl, hR2, hg2⟩
      have hq2 := (hq.below hb1 (by omega)).grown hg2 (by intro e; injection e with e; omega)
      have hb2 := grown_below hg2 (B := w.heap.size + 1) hz1 (fun k hk => by injection hk with hk; omega)
      go_wp2_with fail
      refine (c1 _ _ hR2).mono ?_
      rintro e w3 ⟨rfl, hR3, hg3⟩
      have hq3 := hq2.grown hg3 (by intro e; injection e with e; omega)
      have hz3 : w.heap.size + 1 ≤ w2.heap.size := by have := hg2.size; omega
      have hb3 := grown_below hg3 (B := w.heap.size + 1) hz3 (fun k hk => by injection hk with hk; omega)
      go_wp2_with fail
      refine (c2 _ _ hR3).mono ?_
      rintro e w4 ⟨rfl, hR4, hg4⟩
      have hq4 := hq3.grown hg4 (by intro e; injection e with e; omega)
      have hb4 := grown_below hg4 (B := w.heap.size + 1) (by have := hg3.size; omega) (fun k hk => by injection hk with hk; omega)
      go_wp2_with fail
      refine (c3 _ _ hR4).mono ?_
      rintro e w5 ⟨rfl, hR5, hg5⟩
      have hq5 := hq4.grown hg5 (by intro e; injection e with e; omega)
      have hb5 := grown_below hg5 (B := w.heap.size + 1) (by have := hg3.size; have := hg4.size; omega) (fun k hk => by injection hk with hk; omega)
      have hB5 : Below w.heap.size w w5 := hB0.trans ((((hb1.trans hb2).trans hb3).trans hb4 |>.trans hb5).mono (by omega))
      clear hq hq2 hq3 hq4 hb1 hb2 hb3 hb4 hb5 hR hR2 hR3 hR4
      have hz5 : w.heap.size < w5.heap.size := hq5.lt
      go_wp2_with fail
      refine (fault_ _ _ _ _ (hR5.below ((Below.refl _ _).alloc (Nat.le_refl _) _))).mono ?_
      rintro e w6 ⟨rfl, hb6⟩
      have hq6 := (hq5.alloc (.cells #[.int .i64 (t : Int), .int .i64 (k : Int), .int .i64 (d : Int)] 76)).keep hb6
      have hh6 := (Blk.new w5 76 #[.int .i64 (t : Int), .int .i64 (k : Int), .int .i64 (d : Int)] rfl).keep hb6
      have hB6 : Below w.heap.size w w6 := hB5.trans (((Below.refl _ _).alloc (Nat.le_refl _) _).trans (hb6.mono (by simp)) |>.mono (by omega))
      have r0 := hq6.cell (j := 0) rfl
      have r1 := hq6.cell (j := 1) rfl
      have r2 := hq6.cell (j := 2) rfl
      have q0 := hq6.free 0
      have q1 := hq6.free 1
      have q2 := hq6.free 2
      have s0 := hh6.cell (j := 0) rfl
      have s1 := hh6.cell (j := 1) rfl
      have s2 := hh6.cell (j := 2) rfl
      go_wp2
      refine bodyPost_ret (v := .agg #[.int .i64 (t : Int), .int .i64 (k : Int), .int .i64 (d : Int)]) (by simp [results, Try.results49, go_sem, r0, r1, r2, q0, q1, q2]) rfl ?_
      rw [HP.out]
      refine ⟨rfl, ?_⟩
      have hset := ((grown_setCell w6 ⟨w.heap.size, 0, none⟩ (.int .i64 (t : Int))).trans (grown_setCell _ ⟨w.heap.size, 1, none⟩ (.int .i64 (k : Int)))).trans (grown_setCell _ ⟨w.heap.size, 2, none⟩ (.int .i64 (d : Int)))
      exact hB6.grown hset hB6.size (fun j e => by simp at e; omega)
    · have HP := Lib.hid (show parseL xs = (0, 0, 0) by rw [hP, if_neg hf])
      have hf' : ¬ ((s4.e : Int) = 0 ∧ (s4.f : Int) = 0) := by omega
      clear hP hf hm
      rcases (show (s4.e : Int) ≠ 0 ∨ (s4.e : Int) = 0 ∧ (s4.f : Int) ≠ 0 by omega) with f1 | ⟨f1, f2⟩
      all_goals
        go_enter Try.func49, Try.ntmps49
        go_wp2_with fail
        refine (pnew_ A n c xs _ (hx.alloc _) hA hnc hc hn).mono ?_
        rintro e w1 ⟨br, rfl, hbr, hR, hb1⟩
        simp only [World.size_alloc] at hbr hb1
        have hz1 : w.heap.size + 1 ≤ w1.heap.size := by have := hb1.size; simpa using this
        go_wp2_with fail
        refine (cg _ _ hR).mono ?_
        rintro e w2 ⟨rfl, hR2, hg2⟩
        have hq2 := (hq.below hb1 (by omega)).grown hg2 (by intro e; injection e with e; omega)
        have hb2 := grown_below hg2 (B := w.heap.size + 1) hz1 (fun k hk => by injection hk with hk; omega)
        go_wp2_with fail
        refine (c1 _ _ hR2).mono ?_
        rintro e w3 ⟨rfl, hR3, hg3⟩
        have hq3 := hq2.grown hg3 (by intro e; injection e with e; omega)
        have hz3 : w.heap.size + 1 ≤ w2.heap.size := by have := hg2.size; omega
        have hb3 := grown_below hg3 (B := w.heap.size + 1) hz3 (fun k hk => by injection hk with hk; omega)
        go_wp2_with fail
        refine (c2 _ _ hR3).mono ?_
        rintro e w4 ⟨rfl, hR4, hg4⟩
        have hq4 := hq3.grown hg4 (by intro e; injection e with e; omega)
        have hb4 := grown_below hg4 (B := w.heap.size + 1) (by have := hg3.size; omega) (fun k hk => by injection hk with hk; omega)
        go_wp2_with fail
        refine (c3 _ _ hR4).mono ?_
        rintro e w5 ⟨rfl, hR5, hg5⟩
        have hq5 := hq4.grown hg5 (by intro e; injection e with e; omega)
        have hb5 := grown_below hg5 (B := w.heap.size + 1) (by have := hg3.size; have := hg4.size; omega) (fun k hk => by injection hk with hk; omega)
        have hB5 : Below w.heap.size w w5 := hB0.trans ((((hb1.trans hb2).trans hb3).trans hb4 |>.trans hb5).mono (by omega))
        clear hq hq2 hq3 hq4 hb1 hb2 hb3 hb4 hb5 hR hR2 hR3 hR4
        have hz5 : w.heap.size < w5.heap.size := hq5.lt
        go_wp2_with fail
        refine (fault_ _ _ _ _ (hR5.below ((Below.refl _ _).alloc (Nat.le_refl _) _))).mono ?_
        rintro e w6 ⟨rfl, hb6⟩
        have hq6 := (hq5.alloc (.cells #[.int .i64 (t : Int), .int .i64 (k : Int), .int .i64 (d : Int)] 76)).keep hb6
        have hh6 := (Blk.new w5 76 #[.int .i64 (t : Int), .int .i64 (k : Int), .int .i64 (d : Int)] rfl).keep hb6
        have hB6 : Below w.heap.size w w6 := hB5.trans (((Below.refl _ _).alloc (Nat.le_refl _) _).trans (hb6.mono (by simp)) |>.mono (by omega))
        have r0 := hq6.cell (j := 0) rfl
        have r1 := hq6.cell (j := 1) rfl
        have r2 := hq6.cell (j := 2) rfl
        have q0 := hq6.free 0
        have q1 := hq6.free 1
        have q2 := hq6.free 2
        have s0 := hh6.cell (j := 0) rfl
        have s1 := hh6.cell (j := 1) rfl
        have s2 := hh6.cell (j := 2) rfl
        go_wp2
        refine bodyPost_ret (v := .agg #[.int .i64 (0 : Nat), .int .i64 (0 : Nat), .int .i64 (0 : Nat)]) (by simp [results, Try.results49, go_sem, r0, r1, r2, q0, q1, q2]) rfl ?_
        rw [HP.out]
        refine ⟨rfl, ?_⟩
        have hset := ((grown_setCell w6 ⟨w.heap.size, 0, none⟩ (.int .i64 (0 : Nat))).trans (grown_setCell _ ⟨w.heap.size, 1, none⟩ (.int .i64 (0 : Nat)))).trans (grown_setCell _ ⟨w.heap.size, 2, none⟩ (.int .i64 (0 : Nat)))
        exact hB6.grown hset hB6.size (fun j e => by simp at e; omega)
  · have HP := Lib.hid (show parseL xs = (0, 0, 0) by rw [hP, if_pos hm])
    have hm' : ¬ (m : Int) = 8746399990351620727 := fun e => hm (Int.ofNat.inj e)
    clear hP hm
    go_enter Try.func49, Try.ntmps49
    go_wp2_with fail
    refine (pnew_ A n c xs _ (hx.alloc _) hA hnc hc hn).mono ?_
    rintro e w1 ⟨br, rfl, hbr, hR, hb1⟩
    simp only [World.size_alloc] at hbr hb1
    have hz1 : w.heap.size + 1 ≤ w1.heap.size := by have := hb1.size; simpa using this
    go_wp2_with fail
    refine (cg _ _ hR).mono ?_
    rintro e w2 ⟨rfl, hR2, hg2⟩
    have hq2 := (hq.below hb1 (by omega)).grown hg2 (by intro e; injection e with e; omega)
    have hb2 := grown_below hg2 (B := w.heap.size + 1) hz1 (fun k hk => by injection hk with hk; omega)
    have hB2 : Below w.heap.size w w2 := hB0.trans ((hb1.trans hb2).mono (by omega))
    have r0 := hq2.cell (j := 0) rfl
    have r1 := hq2.cell (j := 1) rfl
    have r2 := hq2.cell (j := 2) rfl
    have q0 := hq2.free 0
    have q1 := hq2.free 1
    have q2 := hq2.free 2
    go_wp2
    refine bodyPost_ret (v := .agg #[.int .i64 (0 : Nat), .int .i64 (0 : Nat), .int .i64 (0 : Nat)]) (by simp [results, Try.results49, go_sem, r0, r1, r2, q0, q1, q2]) rfl ?_
    rw [HP.out]
    refine ⟨rfl, ?_⟩
    have hset := ((grown_setCell w2 ⟨w.heap.size, 0, none⟩ (.int .i64 (0 : Nat))).trans (grown_setCell _ ⟨w.heap.size, 1, none⟩ (.int .i64 (0 : Nat)))).trans (grown_setCell _ ⟨w.heap.size, 2, none⟩ (.int .i64 (0 : Nat)))
    exact hB2.grown hset hB2.size (fun j e => by simp at e; omega)
end Go.Proofs.Ytlpbdnncbinbmaa
