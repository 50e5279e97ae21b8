/- Proves PlanReads of layer 14 (plan), for every input, with no condition: what is read in parts and joined is what is read at once. -/
import Derived.Test.YtdcggnfplfgcnaaPlaW
import Derived.Test.YtdcggnfplfgcnaaPlaR
import Derived.Deep.RegionHeld3
set_option linter.all false
namespace Go.Proofs.Ytdcggnfplfgcnaa
open Go.ChangeShapes Go.WideShapes Go.ChangeAt Go.RowKit
namespace Pla
open Blo (I64 Dat Sml FitB Opl GotN AnsN OpV opShp toOp ns_of ops_ns nsShp)
open Sma (Pc Mp Mr mv run_mem)

abbrev ator (a n : Int) : Obj := .cells #[.int .i64 a, .int .i64 n] 28
/-- v is a row of the call's own, of slices of numbers that lie in rows of the call's own. -/
structure Sr (w : World) (base : Nat) (v : Value) (n : Nat) (S : List (List Nat × Value)) : Prop where
  row : w.ownsRow base 25 1 v n (S.map Prod.snd)
  data : ∀ p ∈ S, w.ownsRow base 64 1 p.2 p.1.length (nvs p.1)
  low : ∀ p ∈ S, ∀ z ∈ p.1, z < 18446744073709551616
theorem Sr.len {w : World} {base : Nat} {v : Value} {n : Nat} {S : List (List Nat × Value)} (h : Sr w base v n S) : n = S.length := by have := h.row.1; rw [List.length_map] at this; omega
theorem Sr.keep {w w' : World} {base : Nat} {v : Value} {n : Nat} {S : List (List Nat × Value)} (h : Sr w base v n S) (hb : Below w.heap.size w w') : Sr w' base v n S := ⟨own_keep h.row hb, fun p hp => own_keep (h.data p hp) hb, h.low⟩
theorem Sr.nil (w : World) (base : Nat) : Sr w base (.slice none 0 0) 0 [] := ⟨own_nil _ _ _ _, by simp, by simp⟩
theorem sr_push {w w' : World} {base : Nat} {v v' : Value} {n : Nat} {S : List (List Nat × Value)} {l : List Nat} {d : Value} (h : Sr w base v n S) (hg : w.grownBy w' v.ownBlock) (hr : w'.ownsRow base 25 1 v' (n + 1) (S.map Prod.snd ++ [d])) (hd : w.ownsRow base 64 1 d l.length (nvs l)) (hl : ∀ z ∈ l, z < 18446744073709551616) : Sr w' base v' (n + 1) (S ++ [(l, d)]) := by
  have hne : ∀ {u : Value} {m : Nat} {xs : List Value}, w.ownsRow base 64 1 u m xs → ∀ k, u.ownBlock = some k → some k ≠ v.ownBlock := fun hu k hk e => own_ne h.row hu (by decide) e.symm hk
  refine ⟨by rw [List.map_append]; exact hr, fun p hp => ?_, fun p hp => ?_⟩
  · rcases List.mem_append.1 hp with hp | hp
    · exact own_grown (h.data p hp) hg (hne (h.data p hp))
    · rw [List.mem_singleton.1 hp]
      exact own_grown hd hg (hne hd)
  · rcases List.mem_append.1 hp with hp | hp
    · exact h.low p hp
    · rw [List.mem_singleton.1 hp]; exact hl
theorem Sr.nss {w : World} {base : Nat} {A : Option Addr} {n c : Nat} {S : List (List Nat × Value)} (h : Sr w base (.slice A n c) n S) : Nss w A n (S.map Prod.fst) := by
  refine ⟨by rw [List.length_map]; exact h.len, fun i hi => ?_⟩
  have hi' : i < S.length := by simpa using hi
  have hd := h.data S[i] (List.getElem_mem hi')
  have hl := h.low S[i] (List.getElem_mem hi')
  obtain ⟨X, c', e, h1, h2, _⟩ := own_form hd
  obtain ⟨b, o, eA, hx, hc⟩ := Rd.at_ (rd_own h.row) (k := i) (by have := h.len; omega)
  rw [e] at hd
  simp only [List.getElem_map] at hc ⊢
  rw [e] at hc
  exact ⟨b, o, X, _, c', eA, hc, h1, by unfold maxLen at h2; omega, no_ns hd hl⟩
theorem info_u64s : (Try.prog.info? 25).map (fun i => (i.zero, i.size, i.bytes)) = some (some (.slice none 0 0), 1, 24) := by kernel_rfl
theorem u64s_info : ∃ i, Try.prog.info? 25 = some i ∧ i.zero = some (.slice none 0 0) ∧ i.size = 1 ∧ i.bytes = 24 := by
  obtain ⟨i, hi, he⟩ := Option.map_eq_some_iff.1 info_u64s
  simp only [Prod.mk.injEq] at he
  exact ⟨i, hi, he.1, he.2.1, he.2.2⟩
theorem read_in {m : Mp} {a n : Int} (hr : m.right = true) (ho : (trO a n).right m.n = true) {q : Pt} (hq : q ∈ readsL m a n) : 0 ≤ q.op.off ∧ 0 < q.op.len ∧ q.op.off + q.op.len ≤ m.n := by
  obtain ⟨h0, h1, h2⟩ := tr_ok ho
  rw [readsL_ok hr ho] at hq
  obtain ⟨k, p, e1, -, -, e4, e5⟩ := parts_mem _ _ hq
  have hp := run_mem (Sma.right_is hr).2.2.2 p (List.mem_of_getElem? e1)
  have ha : (rdO a n).off = a := rfl
  rw [ha] at e4 e5
  rw [rd_cut] at e4
  rw [e4]
  simp only
  omega
theorem reads_pos {m : Mp} {a n : Int} (h : readsE m a n = 0) : m.right = true ∧ (trO a n).right m.n = true := by
  unfold readsE opsE at h
  split at h
  · rename_i h1
    split at h
    · rename_i h2
      exact ⟨h1, h2⟩
    · cases h
  · cases h
section
variable (w : World)
theorem rreadI_ (A : Option Addr) (n c : Nat) (v : List Nat) (h : Ns w A n v) (hnc : n ≤ c) (hc : c ≤ 9223372036854775807) (hn : n ≤ 1024) (a q : Int) (ha : 0 ≤ a) (hq : 0 < q) (haq : a + q ≤ (n : Int)) :
    Calls Try.prog 32 #[.slice A n c, .int .i64 a, .int .i64 q] w fun e w' => AnsN w w' e 0 (sl v a q) := by
  obtain ⟨k, rfl⟩ := Int.eq_ofNat_of_zero_le ha
  obtain ⟨r, rfl⟩ := Int.eq_ofNat_of_zero_le (show 0 ≤ q by omega)
  exact rread_ w A n c v h hnc hc hn k r (by omega) (by omega)
set_option maxRecDepth 100000 in
set_option maxHeartbeats 4000000 in
theorem reads_walk (m : Mp) (A : Option Addr) (k c : Nat) (h : Mr w m A k c) (V : Option Addr) (vn vc : Nat) (v : List Nat) (hv : Ns w V vn v) (hvc : vn ≤ vc) (hvm : vc ≤ 9223372036854775807) (a n : Int) (ha : I64 a) (hn : I64 n) :
    Calls Try.prog 8 #[mv m A k c, .slice V vn vc, .agg #[.int .i64 a, .int .i64 n]] w fun e w' => e = .returned (.bool true) ∧ Below w.heap.size w w' := by
  obtain ⟨i0, hi0', hz0, hz1, hz2⟩ := u64s_info
  have Hz := Lib.hid hz2
  clear hz2
  obtain ⟨w1, hw1⟩ : ∃ w1, (w.alloc (rmo m A k c)).alloc (ator a n) = w1 := ⟨_, rfl⟩
  have hb1 : Below w.heap.size w w1 := by rw [← hw1]; exact ((Below.refl w.heap.size w).alloc (Nat.le_refl _) _).alloc (by simp) _
  have hm1 : Mr w1 m A k c := h.below hb1
  have hv1 := hv.below hb1
  have k1 : Blk w1 w.heap.size 24 #[.int .i64 m.v, .int .i64 m.n, .slice A k c] := by rw [← hw1]; exact (Blk.new w _ _ rfl).alloc _
  have k3 : Blk w1 (w.heap.size + 1) 28 #[.int .i64 a, .int .i64 n] := by rw [← hw1]; exact Blk.new _ _ _ (by simp)
  have HS2 := Lib.hid (fun w' (hb : Below w1.heap.size w1 w') => show w'.cell? ⟨w.heap.size, 0, none⟩ = some (.int .i64 m.v) ∧ w'.cell? ⟨w.heap.size, 1, none⟩ = some (.int .i64 m.n) ∧ w'.cell? ⟨w.heap.size, 2, none⟩ = some (.slice A k c) ∧ w'.cell? ⟨w.heap.size + 1, 0, none⟩ = some (.int .i64 a) ∧ w'.cell? ⟨w.heap.size + 1, 1, none⟩ = some (.int .i64 n) from ⟨(k1.keep hb).cell rfl, (k1.keep hb).cell rfl, (k1.keep hb).cell rfl, (k3.keep hb).cell rfl, (k3.keep hb).cell rfl⟩)
  obtain ⟨G, hG⟩ : ∃ G, readsE m a n = G := ⟨_, rfl⟩
  have HG := Lib.hid hG
  have HW1 := Lib.hid hw1
  have Hvl := Lib.hid hv.len
  have hmn := smi h.n
  unfold I64 at hmn
  have S0 := HS2.out _ (Below.refl _ _)
  clear h hv k1 k3 hG hw1
  go_enter Try.func8, Try.ntmps8
  go_wp2_with fail
  rw [HW1.out]
  go_region_held3 (fun w' => w'.cell? ⟨w.heap.size, 0, none⟩ = some (.int .i64 m.v) ∧ w'.cell? ⟨w.heap.size, 1, none⟩ = some (.int .i64 m.n) ∧ w'.cell? ⟨w.heap.size, 2, none⟩ = some (.slice A k c) ∧ w'.cell? ⟨w.heap.size + 1, 0, none⟩ = some (.int .i64 a) ∧ w'.cell? ⟨w.heap.size + 1, 1, none⟩ = some (.int .i64 n)) (first | exact S0 | exact S2 | exact S3 | go_keep)
    (first
      | (go_at_call 11
         refine (theirs_ _ m A k c).mono ?_
         rintro e w2 ⟨rfl, hc2⟩
         have hbA : Below w1.heap.size w1 w2 := below_undrew hc2
         have S2 := HS2.out w2 hbA
         have hmA := hm1.below hbA)
      | (go_at_call 13
         refine (reads_ _ m A k c hmA a n ha hn).mono ?_
         rw [HG.out]
         rintro e w3 ⟨A3, n3, c3, L, rfl, hG3, hL3, hc3⟩
         have HL := Lib.hid hL3
         have hbB : Below w1.heap.size w1 w3 := below_step hbA hc3 (Nat.le_refl _)
         have S3 := HS2.out w3 hbB))
  have hp := hG3.ptl
  obtain ⟨s0, s1, s2, s3, s4⟩ := HS2.out w3 hbB
  have hB3 := below_step hb1 hbB (Nat.le_refl _)
  clear S0 S2 S3 hmA hL3 hc3 hbA hc2
  by_cases hG0 : G = 0
  · subst hG0
    by_cases hlt : (vn : Int) < m.n
    · clear hp hG3
      go_wp2_with fail
      refine (alive_ _).mono ?_
      rintro e w6 ⟨rfl, hc6⟩
      go_wp2
      go_ret
      exact ⟨rfl, below_step hB3 hc6 (Nat.le_refl _)⟩
    by_cases hgt : (1024 : Int) < (vn : Int)
    · clear hp hG3
      go_wp2_with fail
      refine (alive_ _).mono ?_
      rintro e w6 ⟨rfl, hc6⟩
      go_wp2
      go_ret
      exact ⟨rfl, below_step hB3 hc6 (Nat.le_refl _)⟩
    obtain ⟨hr, ho⟩ := reads_pos HG.out
    obtain ⟨h0, h1, h2⟩ := tr_ok ho
    have hv1024 : vn ≤ 1024 := by omega
    have hn16 : n3 ≤ 16 := by
      have h5 : (readsL m a n).length ≤ 16 := by rw [readsL_ok hr ho]; exact Nat.le_trans (parts_len _ _ _ _) (right_nd hr).1
      rw [← HL.out, List.length_map] at h5
      have := hp.len
      omega
    have Hin := Lib.hid (fun (p : Pt × Value) (hq : p ∈ L) => read_in hr ho (q := p.1) (by rw [← HL.out]; exact List.mem_map.2 ⟨p, hq, rfl⟩))
    have HLl := Lib.hid hp.len
    have hflat : ((L.map Prod.fst).map fun q => sl v q.op.off q.op.len).flatten = sl v a n := by
      rw [HL.out, readsL_ok hr ho, reads_flat (v := v) h0 h1 h2 (i := 0) (Sma.right_is hr).2.2.2 (Int.le_refl 0) (x := a) (by omega)]
      congr 1
      omega
    have hlens : (((L.map Prod.fst).map fun q => sl v q.op.off q.op.len).map fun d => (d.length : Int)) = (readsL m a n).map fun q => q.op.len := by
      rw [← HL.out, List.map_map, List.map_map, List.map_map]
      refine List.map_congr_left fun p hp' => ?_
      obtain ⟨g0, g1, g2⟩ := Hin.out p hp'
      exact sl_len g0 (by omega) (by have := Hvl.out; omega)
    have Hflat := Lib.hid hflat
    have HJ := Lib.hid (joinE_ok hr ho hlens)
    have hv3 := hv1.below hbB
    have hsz := hB3.size
    clear hflat hlens hr ho hG3 hv1
    go_wp2_with fail
    go_loopw [9, 45] (fun vv iv wr => ∃ (i : Nat) (S : List (List Nat × Value)), i ≤ n3 ∧ iv = .int .i64 (i : Int) ∧ Sr wr w3.heap.size vv i S ∧ S.map Prod.fst = ((L.take i).map Prod.fst).map (fun q => sl v q.op.off q.op.len) ∧ Below w3.heap.size w3 wr) (fun _ iv _ => n3 - (intOf iv).toNat)
    case atStart => exact ⟨0, [], Nat.zero_le _, rfl, Sr.nil _ _, rfl, Below.refl _ _⟩
    case round =>
      obtain ⟨i, S, hi, rfl, hS, hSL, hb⟩ := hrel
      by_cases hlt2 : i < n3
      · have hil : (i : Int) < (n3 : Int) := by omega
        have hi0 : (0 : Int) ≤ (i : Int) := by omega
        obtain ⟨p, q, x, X, xm, xc, rfl, hx, ixp, ixn, dx, c0, c1, c2, c3', c4, c5⟩ := (hp.below hb).at_ hlt2
        obtain ⟨g0, g1, g2⟩ := Hin.out _ (List.mem_of_getElem? hx)
        simp only at g0 g1 g2
        have hac := Blk.new wr 67 #[.int .i64 x.pc, .int .i64 x.nd, .int .i64 x.op.kind, .int .i64 x.op.off, .int .i64 x.op.len, .slice X xm xc] rfl
        have ha1 : Below wr.heap.size wr (wr.alloc (pto x (.slice X xm xc) 67)) := (Below.refl _ _).alloc (Nat.le_refl _) _
        have hv4 := (hv3.below hb).below ha1
        have hba := below_step hb ha1 (Nat.le_refl _)
        have hSa := hS.keep ha1
        have HSL := Lib.hid (show S.map Prod.fst ++ [sl v x.op.off x.op.len] = ((L.take (i + 1)).map Prod.fst).map (fun q => sl v q.op.off q.op.len) by rw [List.take_add_one, hx, hSL]; simp)
        clear hx hSL hS hb dx ixp ixn ha1
        go_wp2_with fail
        refine (rreadI_ _ V vn vc v hv4 hvc hvm hv1024 x.op.off x.op.len g0 g1 (by omega)).mono ?_
        rintro e wA ⟨AA, nA, cA, rfl, hGA, hbA⟩
        have hSA := hSa.keep hbA
        have hBA := below_step hba hbA (Nat.le_refl _)
        have hsA := hba.size
        have hnA : nA = (sl v x.op.off x.op.len).length := hGA.ns.len
        have hown : wA.ownsRow w3.heap.size 64 1 (.slice AA nA cA) (sl v x.op.off x.op.len).length (nvs (sl v x.op.off x.op.len)) := by
          have := hGA.own.mono hsA
          rw [hnA] at this ⊢
          exact this
        have hlowA := hGA.low
        have hal : Below wA.heap.size wA (wA.alloc (.cells #[.slice AA nA cA] 25)) := (Below.refl _ _).alloc (Nat.le_refl _) _
        have hrd : Rd (wA.alloc (.cells #[.slice AA nA cA] 25)) (some ⟨wA.heap.size, 0, none⟩) 1 1 [.slice AA nA cA] := by
          have := Rd.new wA #[.slice AA nA cA] 25 (0, 0) (sz := 1) (n := 1) (by simp)
          simpa using this
        have hSB := hSA.keep hal
        have hownB := own_keep hown hal
        have hBB := below_step hBA hal (Nat.le_refl _)
        have hsB := hBB.size
        have hone : ∀ u ∈ [Value.slice AA nA cA], u.oneCell' = true := by intro u hu; rw [List.mem_singleton.1 hu]; rfl
        have hmx : i + 1 ≤ maxLen := by unfold maxLen; omega
        have hby : (i + 1) * 24 ≤ 140737488355328 := by omega
        clear hSa hbA hba hGA hnA hown hal hSA hBA
        go_wp2_with (first
          | (at_builtin
             go_must (refine wpList_app _ rfl (.tmp 62) (.tmp 64) _ rfl w3.heap.size 25 i0 _ 1 24 Try.underlying45 hi0' hz0 hz1 Hz.out rfl Nat.one_pos _ i _ rfl hSB.row (some ⟨wA.heap.size, 0, none⟩) 1 1 [.slice AA nA cA] rfl (fun h => some_ne h) hrd hone hmx hby hsB ?_)
             intro v5 w5 hown5 hg5 hat5
             have hS5 := sr_push hSB hg5 hown5 hownB hlowA
             have hB5 : Below w3.heap.size w3 w5 := hBB.grown hg5 hsB (fun j hj => (hSB.row.lt j hj).1)
             clear hg5 hat5 hown5)
          | fail)
        go_roundw
        case rel => exact ⟨i + 1, S ++ [(sl v x.op.off x.op.len, .slice AA nA cA)], by omega, by go_num, hS5, by rw [List.map_append]; exact HSL.out, hB5⟩
        case measure => simp [intOf]; omega
      · have hin : i = n3 := by omega
        subst hin
        have hnn : ¬ (i : Int) < (i : Int) := by omega
        rw [List.take_of_length_le (by rw [← HLl.out]; exact Nat.le_refl _)] at hSL
        obtain ⟨AD, cD, rfl, hd1, hd2, -⟩ := own_form hS.row
        have hnss := hS.nss
        rw [hSL] at hnss
        have hBB := below_step hbB hb (Nat.le_refl _)
        have hB5 := below_step hB3 hb (Nat.le_refl _)
        have T0 := HS2.out wr hBB
        have hv5 := hv3.below hb
        have hd63 : i ≤ 9223372036854775807 := by omega
        clear hS hSL hp hv3 hb s0 s1 s2 s3 s4 hB3 hbB
        obtain ⟨wo, rfl⟩ : ∃ wo : World, wo = wr := ⟨_, rfl⟩
        go_wp2_with fail
        go_region_held3 (fun w' => w'.cell? ⟨w.heap.size, 0, none⟩ = some (.int .i64 m.v) ∧ w'.cell? ⟨w.heap.size, 1, none⟩ = some (.int .i64 m.n) ∧ w'.cell? ⟨w.heap.size, 2, none⟩ = some (.slice A k c) ∧ w'.cell? ⟨w.heap.size + 1, 0, none⟩ = some (.int .i64 a) ∧ w'.cell? ⟨w.heap.size + 1, 1, none⟩ = some (.int .i64 n)) (first | exact T0 | exact T2 | exact T3 | go_keep)
          (first
            | (go_at_call 11
               refine (theirs_ _ m A k c).mono ?_
               rintro e w6 ⟨rfl, hc6⟩
               have hcA : Below wo.heap.size wo w6 := below_undrew hc6
               have hb6 := below_step hBB hcA (Nat.le_refl _)
               have T2 := HS2.out w6 hb6
               have hm6 := hm1.below hb6
               have hnss6 := hnss.below hcA)
            | (go_at_call 19
               refine (join_ _ m A k c hm6 a n ha hn AD i cD _ hnss6 hd63).mono ?_
               rw [HJ.out.1, HJ.out.2, Hflat.out]
               rintro e w7 ⟨A7, n7, c7, rfl, hG7, hc7⟩
               have hcB : Below wo.heap.size wo w7 := below_step hcA hc7 (Nat.le_refl _)
               have hb7 := below_step hBB hcB (Nat.le_refl _)
               have T3 := HS2.out w7 hb7))
        obtain ⟨s0, s1, s2, s3, s4⟩ := HS2.out w7 hb7
        have hv7 := hv5.below hcB
        have hB7 := below_step hB5 hcB (Nat.le_refl _)
        clear T0 T2 T3 hm6 hc7 hcA hc6 hb6 hBB hB5 hv5 hnss hnss6 hcB hm1
        go_wp2_with fail
        refine (rreadI_ _ V vn vc v hv7 hvc hvm hv1024 a n h0 (by omega) (by omega)).mono ?_
        rintro e w8 ⟨A8, n8, c8, rfl, hG8, hc8⟩
        have hG7' := hG7.keep hc8
        have hB8 := below_step hB7 hc8 (Nat.le_refl _)
        obtain ⟨x1, x2, -⟩ := hG7'.bounds
        have w0 := Blo.words_ w8 A7 A8 n7 n8 c7 c8 _ _ hG7'.ns hG8.ns (by omega)
        rw [decide_eq_true (rfl : sl v a n = sl v a n)] at w0
        clear hG7 hG8 hG7' s0 s1 s2 s3 s4 hv7 hc8 hB7 hb7
        go_wp2_with fail
        refine w0.mono ?_
        rintro e w9 ⟨rfl, q, rfl⟩
        go_wp2_with fail
        refine (alive_ _).mono ?_
        rintro e w10 ⟨rfl, hc10⟩
        go_wp2
        go_ret
        exact ⟨rfl, below_step (below_drewN hB8 _) hc10 (Nat.le_refl _)⟩
  · have t1 : (G != 0) = true := by simpa using hG0
    clear hG0 hp hG3
    go_wp2_with fail
    refine (alive_ _).mono ?_
    rintro e w6 ⟨rfl, hc6⟩
    go_wp2
    go_ret
    exact ⟨rfl, below_step hB3 hc6 (Nat.le_refl _)⟩
end
end Pla
open Pla

set_option maxRecDepth 100000 in
theorem planReads_lifted (os : Os) (started : os.Started) (H : Type) (enc : TypeId × Value → H) :
    ReturnsInHanded {} Try.checked os 8 .any (Rows.planReadsSpec.pre6 enc Try.prog Try.f8 Rows.planReadsRow.domain false) (Rows.planReadsSpec.post enc Try.prog Try.f8 false true false false) := by
  refine law_lifted (C := Try.checked) (tb := 4) own_ started (by kernel_rfl) Try.func8
    (ChangeSpec.witness6 (enc := enc) (C := Try.checked) false ⟨#[], #[.agg #[.int .i64 0, .int .i64 0, .slice none 0 0], .slice none 0 0, .agg #[.int .i64 0, .int .i64 0]], []⟩ 8 (by kernel_rfl) (by kernel_rfl) (by kernel_rfl) (by kernel_rfl))
    rfl rfl Try.underlying4 laidOut_ (by kernel_rfl) (fun ds h => by match ds, h with | [_, _, _], _ => rfl) ?_
  intro W base args ds p hval0 hA0 _ hsz0
  have hval : ∀ (j : Nat) t v, Try.f8.params[j]? = some t → args[j]? = some v → Value.okWide Try.prog W .any base t v := hval0
  have hA : DataW.TrodAll enc Try.prog W 0 (fun _ => true) true Try.f8.params.toList args.toList ds p := hA0
  have hsz : (DataW.weightsEach Try.prog Try.f8.params.toList ds).all (· ≤ reachBytes) = true := hsz0
  clear hval0 hA0 hsz0
  rw [Try.params8] at hA hval hsz
  obtain ⟨v0, v1, v2, d0, d1, d2, p0, p1, p2, rfl, rfl, rfl, h0, h1, h2⟩ := trodAll_three hA
  obtain ⟨cs0, a0, rfl, r0, b0⟩ := arg_struct Sma.ops_mp Try.underlying24 (hval 0 _ v0 rfl rfl) h0 (weight_at hsz (j := 0) rfl rfl)
  obtain ⟨A1, n1, c1, xs1, rfl, r1, b1⟩ := arg_slice Blo.ops_ns Try.underlying25 (hval 1 _ v1 rfl rfl) h1 (weight_at hsz (j := 1) rfl rfl)
  obtain ⟨cs2, a2, rfl, r2, b2⟩ := arg_arr ops_two Try.underlying28 (hval 2 _ v2 rfl rfl) h2 (weight_at hsz (j := 2) rfl rfl)
  exact by
    obtain ⟨A0, k0, c0, rfl, hm, hcb⟩ := Sma.mp_arr r0
    obtain ⟨hv, hnc, -, hc, -⟩ := Blo.ns_of r1
    obtain ⟨rfl, ha, hn⟩ := two_arr r2
    exact reads_walk W (Sma.toMp a0) A0 k0 c0 hm A1 n1 c1 xs1 hv hnc hc _ _ ha hn

/-- PlanReads, for every input: the statement as it was given. -/
theorem planReads_holds : Rows.PlanReadsSaid :=
  OpenClaim.holds_of_wide 8 Try.f8 rfl rfl rfl rfl rfl rfl rfl ⟨rfl, rfl, rfl, rfl, rfl⟩ rfl rfl rfl rfl rfl (by kernel_rfl) Try.func8 (by kernel_rfl)
    (of_decide_eq_true (by kernel_rfl)) (by unfold Func.isWrapper; first | (rw [if_pos (by decide +kernel)]; kernel_rfl) | (rw [if_neg (by decide +kernel)]; exact ⟨rfl, rfl⟩))
    (fun os started H enc _ => planReads_lifted os started H enc)
end Go.Proofs.Ytdcggnfplfgcnaa
