/- Proves PlanDone of layer 14 (plan), for every input, with no condition: the parts of an op, done one by one in any order, are as the op, and are it together. -/
import Derived.Test.YtdcggnfplfgcnaaPlaW
import Derived.Deep.RegionHeld3
set_option linter.all false
namespace Go.Proofs.Ytdcggnfplfgcnaa
open Go.ChangeShapes Go.WideShapes Go.ChangeAt Go.RowKit
namespace Pla
open Blo (I64 Dat Sml FitB Opl GotN AnsN OpV opShp toOp vol fun_ vol_congr fun_vol apE apL apE_of apL_ok)
open Sma (Pc Mp Mr mv)

def zP : Pt := ⟨0, 0, zO⟩
/-- The ops of i parts, from the one with number T on, round and round. -/
def rotL (P : List Pt) (T : Nat) (i : Nat) : List BOp := (List.range i).map fun q => (P.getD ((q + T) % P.length) zP).op
theorem rot_succ {P : List Pt} {T i : Nat} {x : Pt} (h : P[(i + T) % P.length]? = some x) : rotL P T (i + 1) = rotL P T i ++ [x.op] := by
  unfold rotL
  rw [List.range_succ, List.map_append, List.map_singleton, List.getD, h]
  rfl
theorem rot_mem {P : List Pt} {T : Nat} (x : BOp) : x ∈ rotL P T P.length ↔ x ∈ P.map Pt.op := by
  unfold rotL
  constructor
  · intro h
    obtain ⟨q, hq, rfl⟩ := List.mem_map.1 h
    have hq := List.mem_range.1 hq
    have hm : (q + T) % P.length < P.length := Nat.mod_lt _ (by omega)
    rw [List.getD, List.getElem?_eq_getElem hm]
    exact List.mem_map.2 ⟨_, List.getElem_mem hm, rfl⟩
  · intro h
    obtain ⟨y, hy, rfl⟩ := List.mem_map.1 h
    obtain ⟨j, hj, rfl⟩ := List.getElem_of_mem hy
    have ht : T % P.length < P.length := Nat.mod_lt _ (by omega)
    refine List.mem_map.2 ⟨(j + (P.length - T % P.length)) % P.length, List.mem_range.2 (Nat.mod_lt _ (by omega)), ?_⟩
    have e : ((j + (P.length - T % P.length)) % P.length + T) % P.length = j := by
      rw [Nat.mod_add_mod]
      have h1 := Nat.div_add_mod T P.length
      have e2 : j + (P.length - T % P.length) + T = j + P.length * (T / P.length + 1) := by
        rw [Nat.mul_add, Nat.mul_one]
        omega
      rw [e2, Nat.add_mul_mod_self_left, Nat.mod_eq_of_lt hj]
    rw [e, List.getD, List.getElem?_eq_getElem hj]
    rfl
theorem vol_do {N : Nat} {F : Int → Nat} (o : BOp) : vol N (doF (fun_ (vol N F)) o) = vol N (doF F o) := vol_congr fun i hi => by
  unfold doF
  rw [fun_vol hi]
theorem opsE_zero {m : Mp} {o : BOp} (h : opsE m o = 0) : m.right = true ∧ o.right m.n = true := by
  unfold opsE at h
  split at h
  · rename_i h1
    split at h
    · rename_i h2
      exact ⟨h1, h2⟩
    · cases h
  · cases h
theorem opsL_ne {m : Mp} {o : BOp} (h : ¬ opsE m o = 0) : opsL m o = [] := by
  cases hr : m.right with
  | false => exact opsL_no (.inl hr)
  | true =>
    cases ho : o.right m.n with
    | false => exact opsL_no (.inr ho)
    | true => exact absurd (opsE_ok hr ho) h
theorem ops_pos {m : Mp} {o : BOp} (hr : m.right = true) (ho : o.right m.n = true) : 0 < (opsL m o).length := by
  rw [opsL_ok hr ho]
  obtain ⟨h1, _, _⟩ := ok_of_right ho
  obtain ⟨q, hq, _⟩ := parts_cover (o := o) (n := o.cnt) (i := 0) (Sma.right_is hr).2.2.2 (x := o.off) h1.low (Int.le_refl _) (by have := h1.some; omega) h1.high
  exact List.length_pos_of_mem hq
theorem rep_set (N i : Nat) (h : i < N) : (List.replicate i 99 ++ List.replicate (N - i) 0).set i 99 = List.replicate (i + 1) 99 ++ List.replicate (N - (i + 1)) 0 := by
  rw [List.set_append_right _ _ (by simp), List.length_replicate, Nat.sub_self, show N - i = (N - (i + 1)) + 1 by omega, List.replicate_succ, List.set_cons_zero, List.replicate_succ', List.append_assoc]
  rfl
theorem nvs_set (l : List Nat) (i x : Nat) : (nvs l).set i (.int .u64 (x : Int)) = nvs (l.set i x) := by
  unfold nvs
  rw [List.map_set]
section
variable (w : World)
/-- One op of a volume, done by the document. -/
theorem apply1_ (A : Option Addr) (n c : Nat) (v : List Nat) (h : Ns w A n v) (hn : n ≤ 1024) (B : Option Addr) (d : Nat) (o : BOp) (hl : Opl w B 1 [o]) (ho : o.Ok (n : Int)) :
    Calls Try.prog 29 #[.slice A n c, .slice B 1 d] w fun e w' => AnsN w w' e 0 (vol n (doF (fun_ v) o)) := by
  have hlen := h.len
  have hm : manyB (n : Int) = true := by simp [manyB]; omega
  have hall : [o].all (·.right (n : Int)) = true := by simp [right_of_ok ho (by omega) (by omega)]
  have := Blo.rapply_ w A n c v h (by omega) B 1 d [o] hl (by omega)
  rw [apE_of hm hall, apL_ok (by rw [← hlen]; exact hm) (by rw [← hlen]; exact hall), ← hlen] at this
  exact this
set_option maxRecDepth 100000 in
set_option maxHeartbeats 4000000 in
theorem done_walk (m : Mp) (A : Option Addr) (k c : Nat) (h : Mr w m A k c) (o : BOp) (X : Option Addr) (mm cc : Nat) (hd : Dat w o X mm cc) (turn : Int) (htu : I64 turn) :
    Calls Try.prog 6 #[mv m A k c, oa o (.slice X mm cc), .int .i64 turn] w fun e w' => e = .returned (.bool true) ∧ Below w.heap.size w w' := by
  obtain ⟨i1, hi1, hy0, hy1, hy2⟩ := u64_info
  have Hy := Lib.hid hy2
  clear hy2
  have hb1 := (Below.refl w.heap.size w).alloc (Nat.le_refl _) (rmo m A k c)
  have hb2 : Below w.heap.size w ((w.alloc (rmo m A k c)).alloc (oo o (.slice X mm cc))) := hb1.alloc (by simp) _
  have hm2 := (h.alloc (rmo m A k c)).alloc (oo o (.slice X mm cc))
  have hd2 := dat_alloc (dat_alloc hd (rmo m A k c)) (oo o (.slice X mm cc))
  have k1 : Blk ((w.alloc (rmo m A k c)).alloc (oo o (.slice X mm cc))) w.heap.size 24 #[.int .i64 m.v, .int .i64 m.n, .slice A k c] := (Blk.new w _ _ rfl).alloc _
  have k2 : Blk ((w.alloc (rmo m A k c)).alloc (oo o (.slice X mm cc))) (w.heap.size + 1) 27 #[.int .i64 o.kind, .int .i64 o.off, .int .i64 o.len, .slice X mm cc] := Blk.new _ _ _ (by simp)
  have hS : ∀ w', Below ((w.alloc (rmo m A k c)).alloc (oo o (.slice X mm cc))).heap.size ((w.alloc (rmo m A k c)).alloc (oo o (.slice X mm cc))) w' → w'.cell? ⟨w.heap.size, 0, none⟩ = some (.int .i64 m.v) ∧ w'.cell? ⟨w.heap.size, 1, none⟩ = some (.int .i64 m.n) ∧ w'.cell? ⟨w.heap.size, 2, none⟩ = some (.slice A k c) ∧ w'.cell? ⟨w.heap.size + 1, 0, none⟩ = some (.int .i64 o.kind) ∧ w'.cell? ⟨w.heap.size + 1, 1, none⟩ = some (.int .i64 o.off) ∧ w'.cell? ⟨w.heap.size + 1, 2, none⟩ = some (.int .i64 o.len) ∧ w'.cell? ⟨w.heap.size + 1, 3, none⟩ = some (.slice X mm cc) := fun w' hb => ⟨(k1.keep hb).cell rfl, (k1.keep hb).cell rfl, (k1.keep hb).cell rfl, (k2.keep hb).cell rfl, (k2.keep hb).cell rfl, (k2.keep hb).cell rfl, (k2.keep hb).cell rfl⟩
  have HSS := Lib.hid hS
  obtain ⟨E, hE⟩ : ∃ E, opsE m o = E := ⟨_, rfl⟩
  have HE := Lib.hid hE
  have S0 := hS _ (Below.refl _ _)
  have HlenO := Lib.hid hd.len
  clear h hd hb1 k1 k2 hE hS
  unfold I64 at htu
  go_enter Try.func6, Try.ntmps6
  go_wp2_with fail
  generalize ((w.alloc (rmo m A k c)).alloc (oo o (.slice X mm cc))) = w1 at *
  go_region_held3 (fun w' => w'.cell? ⟨w.heap.size, 0, none⟩ = some (.int .i64 m.v) ∧ w'.cell? ⟨w.heap.size, 1, none⟩ = some (.int .i64 m.n) ∧ w'.cell? ⟨w.heap.size, 2, none⟩ = some (.slice A k c) ∧ w'.cell? ⟨w.heap.size + 1, 0, none⟩ = some (.int .i64 o.kind) ∧ w'.cell? ⟨w.heap.size + 1, 1, none⟩ = some (.int .i64 o.off) ∧ w'.cell? ⟨w.heap.size + 1, 2, none⟩ = some (.int .i64 o.len) ∧ w'.cell? ⟨w.heap.size + 1, 3, none⟩ = some (.slice X mm cc)) (first | exact S0 | exact S2 | exact S3 | go_keep)
    (first
      | (go_at_call 11
         refine (theirs_ _ m A k c).mono ?_
         rintro e w2 ⟨rfl, hc2⟩
         have hbA : Below w1.heap.size w1 w2 := below_undrew hc2
         have S2 := HSS.out w2 hbA
         have hmA := hm2.below hbA
         have hdA := hd2.below hbA)
      | (go_at_call 10
         refine (ops_ _ m A k c hmA o X mm cc hdA).mono ?_
         rw [HE.out]
         rintro e w3 ⟨A3, n3, c3, L, rfl, hG3, hL3, hc3⟩
         have HL3 := Lib.hid hL3
         have hbB : Below w1.heap.size w1 w3 := below_step hbA hc3 (Nat.le_refl _)
         have S3 := HSS.out w3 hbB))
  clear S0 S2 hmA hdA hm2 hL3 S3 hc3 hbA
  have hp := hG3.ptl
  have hB3 := below_step hb2 hbB (Nat.le_refl _)
  by_cases hE0 : E = 0
  · subst hE0
    obtain ⟨hr, ho⟩ := opsE_zero HE.out
    obtain ⟨hok, hN0, hN1⟩ := ok_of_right ho
    have hpos := ops_pos hr ho
    have hrun := (Sma.right_is hr).2.2.2
    have hLf := HL3.out
    rw [opsL_ok hr ho] at hLf hpos
    have h16 : (partsL o o.cnt 0 m.ps).length ≤ 16 := Nat.le_trans (parts_len _ _ _ _) (right_nd hr).1
    have HW := Lib.hid (show wholeA (L.map Prod.fst) = (o, 0) by rw [hLf]; exact whole_parts hok hN1 hrun)
    have hln : n3 = (partsL o o.cnt 0 m.ps).length := by rw [← hLf, List.length_map]; exact hp.len
    have Hany := Lib.hid (fun (M : List BOp) (hM : ∀ x, x ∈ M ↔ x ∈ (L.map Prod.fst).map Pt.op) (F : Int → Nat) => done_any hok hrun (M := M) (by rw [← hLf]; exact hM) F)
    have Hpart := Lib.hid (fun (q : Pt) (hq : q ∈ L.map Prod.fst) => (part_ok hok (l := m.ps) (i := 0) (q := q) (by rw [← hLf]; exact hq)).1)
    obtain ⟨N, hN⟩ := Int.eq_ofNat_of_zero_le hN0
    have hNle : N ≤ 1024 := by omega
    have hn0 : 0 < n3 := by omega
    have hn16 : n3 ≤ 16 := by omega
    have HlenP := Lib.hid (show n3 = (L.map Prod.fst).length by rw [List.length_map]; exact hp.len)
    clear hpos h16 hln hLf hrun hr ho hN1 hN0 HL3 HE
    rw [hN] at hok
    have Hok := Lib.hid hok
    have HmN := Lib.hid hN
    obtain ⟨s0, s1, s2, -, -, -, -⟩ := HSS.out w3 hbB
    have t3 : ((n3 : Int) == 0) = false := by simp; omega
    have hN0' : 0 ≤ m.n := by omega
    clear hN hok hG3
    go_wp2_with (first
      | (at_make
         refine wpList_make_blk _ rfl _ _ 25 rfl 64 i1 _ 1 8 Try.underlying25 hi1 hy0 hy1 Hy.out .i64 .i64 _ _ N rfl rfl HmN.out HmN.out (by omega) (by omega) ?_
         intro w4 hk4 hb4 hs4)
      | fail)
    have hZ : w4.ownsRow w3.heap.size 64 1 (.slice (some ⟨w3.heap.size, 0, none⟩) N N) N (nvs (List.replicate N 0)) := Blo.own_blk hk4 (Nat.le_refl _) (by unfold maxLen; omega) (by rw [Nat.mul_one, Blo.nvs_repl]; exact Blo.made_list N _) (by rw [nvs_length]; simp)
    have hp4 := hp.below hb4
    clear hk4 hs4 s0 s1 s2
    go_loopw [41] (fun iv wr => ∃ i : Nat, i ≤ N ∧ iv = .int .i64 (i : Int) ∧ wr.ownsRow w3.heap.size 64 1 (.slice (some ⟨w3.heap.size, 0, none⟩) N N) N (nvs (List.replicate i 99 ++ List.replicate (N - i) 0)) ∧ Below w3.heap.size w3 wr) (fun iv _ => N - (intOf iv).toNat)
    case atStart => exact ⟨0, Nat.zero_le _, rfl, by simpa using hZ, hb4⟩
    case round =>
      obtain ⟨i, hi, rfl, hown, hb⟩ := hrel
      by_cases hlt : i < N
      · have hil : (i : Int) < (N : Int) := by omega
        have hi0 : (0 : Int) ≤ (i : Int) := by omega
        have hset := own_set1 hown i (.int .u64 ((99 : Nat) : Int)) hlt
        rw [nvs_set, rep_set N i hlt] at hset
        obtain ⟨g, cap, cur, eg, _, _, hbg, hblk, hcs, htk⟩ := own_cells hown (by omega)
        injection eg with eg _ ec
        injection eg with eg
        injection eg with eg
        subst eg ec
        have hlen2 : i < cur.size := by omega
        have cu := hblk.cell (j := i) (u := cur[i]) (Array.getElem?_eq_getElem hlen2)
        have cf := hblk.free i
        have hbs : Below w3.heap.size w3 (wr.setCell ⟨w3.heap.size, i, none⟩ (.int .u64 ((99 : Nat) : Int))) := hb.setCell (Nat.le_refl _) _
        have hNi : i < N := hlt
        clear hown hblk htk hb hZ
        go_wp2
        go_roundw
        case rel => exact ⟨i + 1, by omega, by go_num, hset, hbs⟩
        case measure => simp [intOf]; omega
      · have hin : i = N := by omega
        subst hin
        have hnn : ¬ (i : Int) < (i : Int) := by omega
        rw [Nat.sub_self, List.replicate_zero, List.append_nil] at hown
        have hp5 := hp.below hb
        have hBB := below_step hbB hb (Nat.le_refl _)
        have hd5 := hd2.below hBB
        obtain ⟨-, -, -, o0, o1, o2, o3⟩ := HSS.out wr hBB
        have hB5 := below_step hB3 hb (Nat.le_refl _)
        have ha5 : Below wr.heap.size wr (wr.alloc (oo o (.slice X mm cc))) := (Below.refl _ _).alloc (Nat.le_refl _) _
        have OO : Opl (wr.alloc (oo o (.slice X mm cc))) (some ⟨wr.heap.size, 0, none⟩) 1 [o] := Blo.os_new1 rfl hd5
        have hNs : Ns (wr.alloc (oo o (.slice X mm cc))) (some ⟨w3.heap.size, 0, none⟩) i (List.replicate i 99) := no_ns (own_keep hown ha5) (by intro z hz; rw [List.eq_of_mem_replicate hz]; omega)
        have hfun : vol i (fun_ (List.replicate i 99)) = List.replicate i 99 := by
          have := Blo.vol_fun (List.replicate i 99)
          rw [List.length_replicate] at this
          exact this
        obtain ⟨F0, hF0⟩ : ∃ F0, fun_ (List.replicate i 99) = F0 := ⟨_, rfl⟩
        rw [hF0] at hfun
        have HF0 := Lib.hid hF0
        have Hfun := Lib.hid hfun
        have hB6 := below_step hB5 ha5 (Nat.le_refl _)
        have hp6 := hp5.below ha5
        have hd6 := hd5.below ha5
        have hBB6 := below_step hBB ha5 (Nat.le_refl _)
        have hap := apply1_ (wr.alloc (oo o (.slice X mm cc))) (some ⟨w3.heap.size, 0, none⟩) i i (List.replicate i 99) hNs hNle (some ⟨wr.heap.size, 0, none⟩) 1 o OO Hok.out
        rw [HF0.out] at hap
        obtain ⟨D, hD⟩ : ∃ D, vol i (doF F0 o) = D := ⟨_, rfl⟩
        have HD := Lib.hid hD
        rw [hD] at hap
        have hown6 := own_keep hown ha5
        have hsz36 : w3.heap.size ≤ (wr.alloc (oo o (.slice X mm cc))).heap.size := Nat.le_trans hb.size ha5.size
        clear hF0 hfun hNs OO hp5 hd5 hBB hB5 hZ hp4 hb4 hown hb hB3 hbB hp hd2 hD ha5
        obtain ⟨wo, rfl⟩ : ∃ wo : World, wo = wr := ⟨_, rfl⟩
        go_wp2_with fail
        refine hap.mono ?_
        rintro e w7 ⟨A7, n7, c7, rfl, hG7, hb7⟩
        have hown7 := own_keep hown6 hb7
        have hp7 := hp6.below hb7
        have hB7 := below_step hB6 hb7 (Nat.le_refl _)
        have hBB7 := below_step hBB6 hb7 (Nat.le_refl _)
        have hd7 := hd6.below hb7
        have hs37 : w3.heap.size ≤ w7.heap.size := Nat.le_trans hsz36 hb7.size
        clear hap hown6 hp6 hB6 hBB6 hd6 hb7 o0 o1 o2 o3
        obtain ⟨r, hr⟩ : ∃ r, turn.tmod (n3 : Int) = r := ⟨_, rfl⟩
        have hr1 : r < (n3 : Int) := by rw [← hr]; exact Int.tmod_lt_of_pos _ (by omega)
        have hr2 : -(n3 : Int) < r := by rw [← hr]; exact Int.lt_tmod_of_pos _ (by omega)
        obtain ⟨S, hS⟩ := Int.eq_ofNat_of_zero_le (show 0 ≤ r + (n3 : Int) by omega)
        obtain ⟨T, hT⟩ : ∃ T, S % n3 = T := ⟨_, rfl⟩
        have hTl : T < n3 := by rw [← hT]; exact Nat.mod_lt _ hn0
        have hTi : (S : Int).tmod (n3 : Int) = (T : Int) := by rw [Int.tmod_eq_emod_of_nonneg (by omega), ← hT]; rfl
        have hwr : IntKind.i64.wrap r = r := by rw [IntKind.wrap_i64]; omega
        have hwS : IntKind.i64.wrap (r + (n3 : Int)) = (S : Int) := by rw [hS, IntKind.wrap_i64]; omega
        have hwT : IntKind.i64.wrap (T : Int) = (T : Int) := by rw [IntKind.wrap_i64]; omega
        have hnZ : ¬ (n3 : Int) = 0 := by omega
        have hnzN : ¬ n3 = 0 := by omega
        have hn0i : (0 : Int) < (n3 : Int) := by omega
        clear hT hS hr1 hr2
        go_wp2_with fail
        have hG70 : GotN w7 w3.heap.size (some ⟨w3.heap.size, 0, none⟩) i i (vol i ((rotL (L.map Prod.fst) T 0).foldl doF F0)) := by
          have e : vol i ((rotL (L.map Prod.fst) T 0).foldl doF F0) = List.replicate i 99 := Hfun.out
          rw [e]
          exact ⟨hown7, by intro z hz; rw [List.eq_of_mem_replicate hz]; omega⟩
        clear hown7 hr hwr hwS hTi htu
        go_loopw [9, 67] (fun vv iv wr => ∃ (q : Nat) (Aq : Option Addr) (cq : Nat), q ≤ n3 ∧ iv = .int .i64 (q : Int) ∧ vv = .slice Aq i cq ∧ GotN wr w3.heap.size Aq i cq (vol i ((rotL (L.map Prod.fst) T q).foldl doF F0)) ∧ Below w7.heap.size w7 wr ∧ w3.heap.size ≤ wr.heap.size) (fun _ iv _ => n3 - (intOf iv).toNat)
        case atStart => exact ⟨0, _, _, Nat.zero_le _, rfl, rfl, hG70, Below.refl _ _, hs37⟩
        case round =>
          obtain ⟨q, Aq, cq, hq, rfl, rfl, hGq, hb, hsr⟩ := hrel
          obtain ⟨gq1, gq2, gq3⟩ := hGq.bounds
          by_cases hlt2 : q < n3
          · have hil : (q : Int) < (n3 : Int) := by omega
            have hi0 : (0 : Int) ≤ (q : Int) := by omega
            obtain ⟨j, hj⟩ : ∃ j, (q + T) % n3 = j := ⟨_, rfl⟩
            have hjl : j < n3 := by rw [← hj]; exact Nat.mod_lt _ hn0
            have hjm : ((q : Int) + (T : Int)).tmod (n3 : Int) = (j : Int) := by rw [Int.tmod_eq_emod_of_nonneg (by omega), ← hj]; rfl
            have hwq : IntKind.i64.wrap ((q : Int) + (T : Int)) = (q : Int) + (T : Int) := by rw [IntKind.wrap_i64]; omega
            have hwj : IntKind.i64.wrap (j : Int) = (j : Int) := by rw [IntKind.wrap_i64]; omega
            have hji : (j : Int) < (n3 : Int) := by omega
            have hj0 : (0 : Int) ≤ (j : Int) := by omega
            obtain ⟨bp, op, x, Xx, xm, xc, rfl, hx, -, -, dx, c0, c1, c2, c3', c4, c5⟩ := (hp7.below hb).at_ hjl
            have hPx : (L.map Prod.fst)[(q + T) % (L.map Prod.fst).length]? = some x := by
              rw [← HlenP.out, hj, List.getElem?_map, hx]
              rfl
            have hxok := Hpart.out x (List.mem_of_getElem? hPx)
            rw [HmN.out] at hxok
            have Hrot := Lib.hid (show vol i (doF (fun_ (vol i ((rotL (L.map Prod.fst) T q).foldl doF F0))) x.op) = vol i ((rotL (L.map Prod.fst) T (q + 1)).foldl doF F0) by rw [vol_do, rot_succ hPx, List.foldl_append]; rfl)
            have ha : Below wr.heap.size wr (wr.alloc (oo x.op (.slice Xx xm xc))) := (Below.refl _ _).alloc (Nat.le_refl _) _
            have OO : Opl (wr.alloc (oo x.op (.slice Xx xm xc))) (some ⟨wr.heap.size, 0, none⟩) 1 [x.op] := Blo.os_new1 rfl dx
            have hNs := hGq.ns.below ha
            have hap := apply1_ (wr.alloc (oo x.op (.slice Xx xm xc))) Aq i cq _ hNs hNle (some ⟨wr.heap.size, 0, none⟩) 1 x.op OO hxok
            rw [Hrot.out] at hap
            have hba := below_step hb ha (Nat.le_refl _)
            have hsra : w3.heap.size ≤ (wr.alloc (oo x.op (.slice Xx xm xc))).heap.size := by simp; omega
            clear hj hx hPx dx hGq hb ha OO hNs hxok
            go_wp2_with fail
            refine hap.mono ?_
            rintro e wA ⟨AA, nA, cA, rfl, hGA, hbA⟩
            have hnA : nA = i := by have := hGA.ns.len; rw [Blo.vol_length] at this; exact this
            have hBA := below_step hba hbA (Nat.le_refl _)
            have hsA : w3.heap.size ≤ wA.heap.size := Nat.le_trans hsra hbA.size
            have hGA' : GotN wA w3.heap.size AA i cA (vol i ((rotL (L.map Prod.fst) T (q + 1)).foldl doF F0)) := by
              rw [hnA] at hGA
              exact ⟨hGA.own.mono hsra, hGA.low⟩
            have HnA := Lib.hid hnA
            clear hap hGA hbA hba hnA
            go_wp2
            go_roundw
            case rel => exact ⟨q + 1, AA, cA, by omega, by go_num, by rw [HnA.out], hGA', hBA, hsA⟩
            case measure => simp [intOf]; omega
          · have hin2 : q = n3 := by omega
            subst hin2
            have hnn2 : ¬ (q : Int) < (q : Int) := by omega
            have hfin : vol i ((rotL (L.map Prod.fst) T q).foldl doF F0) = D := by
              rw [← HD.out, Hany.out _ (fun x => by have := rot_mem (P := L.map Prod.fst) (T := T) x; rw [← HlenP.out] at this; exact this) F0]
            rw [hfin] at hGq
            have hSml := Blo.sml_of Hok.out (by omega) hd7.ns.2
            have hp8 := hp7.below hb
            have hG8 := hG7.keep hb
            have hd8 := hd7.below hb
            have hB8 := below_step hB7 hb (Nat.le_refl _)
            have hBB8 := below_step hBB7 hb (Nat.le_refl _)
            clear hfin hG70 hp7 hG7 hd7 hB7 hBB7 hb gq1 gq2 gq3 hwT hnZ hnzN hn0i hTl
            go_wp2_with fail
            refine (whole_ _ A3 q c3 L hp8 (by omega)).mono ?_
            rw [HW.out]
            rintro e wB ⟨d, rfl, hO, hbB⟩
            obtain ⟨Xd, xd, rfl, -, -, -⟩ := own_form hO
            have hdw := Blo.dat_own hO hSml
            have ha := (Below.refl wB.heap.size wB).alloc (Nat.le_refl _) (oo o (.slice Xd o.data.length xd))
            have k16 := Blk.new wB 27 #[.int .i64 o.kind, .int .i64 o.off, .int .i64 o.len, .slice Xd o.data.length xd] rfl
            have hBc := below_step hbB ha (Nat.le_refl _)
            have hG9 := hG8.keep hBc
            have hGq9 := hGq.keep hBc
            have hd9 := hd8.below hBc
            have hdw9 := hdw.below ha
            have hB9 := below_step hB8 hBc (Nat.le_refl _)
            have hBB9 := below_step hBB8 hBc (Nat.le_refl _)
            clear hO hdw hbB ha hBc hG8 hGq hd8 hB8 hBB8 hp8
            go_wp2_with fail
            generalize (wB.alloc (oo o (.slice Xd o.data.length xd))) = wC at *
            obtain ⟨hb1x, hb2x, -⟩ := hGq9.bounds
            have w0 := Blo.words_ wC Aq A7 i n7 cq c7 D D hGq9.ns hG9.ns (by omega)
            rw [decide_eq_true (rfl : D = D)] at w0
            refine w0.mono ?_
            rintro e wE ⟨rfl, j9, hj9⟩
            have hwE : Below wC.heap.size wC wE := by rw [hj9]; exact below_drewN (Below.refl _ _) _
            have hdE := hd9.below hwE
            have hdwE := hdw9.below hwE
            have hBE := below_step hB9 hwE (Nat.le_refl _)
            obtain ⟨e0, e1, e2, e3, -, -, -, -⟩ := cells4 (k16.keep hwE)
            obtain ⟨-, -, -, o0, o1, o2, o3⟩ := HSS.out wE (below_step hBB9 hwE (Nat.le_refl _))
            have hA1 : Below wE.heap.size wE (wE.alloc (oo o (.slice Xd o.data.length xd))) := (Below.refl _ _).alloc (Nat.le_refl _) _
            have hA2 : Below wE.heap.size wE ((wE.alloc (oo o (.slice Xd o.data.length xd))).alloc (oo o (.slice X mm cc))) := hA1.alloc (by simp) _
            have OX : Opl ((wE.alloc (oo o (.slice Xd o.data.length xd))).alloc (oo o (.slice X mm cc))) (some ⟨wE.heap.size, 0, none⟩) 1 [o] := (Blo.os_new1 rfl hdwE).below ((Below.refl _ _).alloc (Nat.le_refl _) _)
            have OY : Opl ((wE.alloc (oo o (.slice Xd o.data.length xd))).alloc (oo o (.slice X mm cc))) (some ⟨wE.heap.size + 1, 0, none⟩) 1 [o] := Blo.os_new1 (by simp) (hdE.below hA1)
            have p0 := (hA1.cell (cell_lt o0)).trans o0
            have p1 := (hA1.cell (cell_lt o1)).trans o1
            have p2 := (hA1.cell (cell_lt o2)).trans o2
            have p3 := (hA1.cell (cell_lt o3)).trans o3
            have hBf := below_step hBE hA2 (Nat.le_refl _)
            clear w0 hG9 hGq9 hd9 hdw9 hB9 hBB9 hA1 hA2 k16 hj9 hwE hdE hdwE hBE
            go_wp2_with fail
            refine (Blo.same_ _ _ _ 1 1 1 1 [o] OX OY (by omega)).mono ?_
            rintro e wF ⟨rfl, j10, rfl⟩
            go_wp2_with fail
            refine (alive_ _).mono ?_
            rintro e wG ⟨rfl, hc6⟩
            go_wp2
            go_ret
            exact ⟨rfl, below_step (below_drewN hBf _) hc6 (Nat.le_refl _)⟩
  · have t1 : (E != 0) = true := by simpa using hE0
    have hz : n3 = 0 := by
      have h1 := HL3.out
      rw [opsL_ne (by rw [HE.out]; exact hE0)] at h1
      have h2 := hp.len
      rw [← List.length_map (f := Prod.fst), h1] at h2
      exact h2
    subst hz
    clear hE0 hp HL3 hG3
    go_wp2_with fail
    refine (alive_ _).mono ?_
    rintro e w6 ⟨rfl, hc6⟩
    go_wp2
    go_ret
    exact ⟨rfl, below_step hB3 hc6 (Nat.le_refl _)⟩
end
end Pla
open Pla

set_option maxRecDepth 100000 in
theorem planDone_lifted (os : Os) (started : os.Started) (H : Type) (enc : TypeId × Value → H) :
    ReturnsInHanded {} Try.checked os 6 .any (Rows.planDoneSpec.pre6 enc Try.prog Try.f6 Rows.planDoneRow.domain false) (Rows.planDoneSpec.post enc Try.prog Try.f6 false true false false) := by
  refine law_lifted (C := Try.checked) (tb := 4) own_ started (by kernel_rfl) Try.func6
    (ChangeSpec.witness6 (enc := enc) (C := Try.checked) false ⟨#[], #[.agg #[.int .i64 0, .int .i64 0, .slice none 0 0], .agg #[.int .i64 0, .int .i64 0, .int .i64 0, .slice none 0 0], .int .i64 0], []⟩ 8 (by kernel_rfl) (by kernel_rfl) (by kernel_rfl) (by kernel_rfl))
    rfl rfl Try.underlying4 laidOut_ (by kernel_rfl) (fun ds h => by match ds, h with | [_, _, _], _ => rfl) ?_
  intro W base args ds p hval0 hA0 _ hsz0
  have hval : ∀ (j : Nat) t v, Try.f6.params[j]? = some t → args[j]? = some v → Value.okWide Try.prog W .any base t v := hval0
  have hA : DataW.TrodAll enc Try.prog W 0 (fun _ => true) true Try.f6.params.toList args.toList ds p := hA0
  have hsz : (DataW.weightsEach Try.prog Try.f6.params.toList ds).all (· ≤ reachBytes) = true := hsz0
  clear hval0 hA0 hsz0
  rw [Try.params6] at hA hval hsz
  obtain ⟨v0, v1, v2, d0, d1, d2, p0, p1, p2, rfl, rfl, rfl, h0, h1, h2⟩ := trodAll_three hA
  obtain ⟨cs0, a0, rfl, r0, b0⟩ := arg_struct Sma.ops_mp Try.underlying24 (hval 0 _ v0 rfl rfl) h0 (weight_at hsz (j := 0) rfl rfl)
  obtain ⟨cs1, a1, rfl, r1, b1⟩ := arg_struct Blo.ops_op Try.underlying27 (hval 1 _ v1 rfl rfl) h1 (weight_at hsz (j := 1) rfl rfl)
  obtain ⟨z2, rfl, hz2⟩ := arg_int _ _ Try.underlying3 (hval 2 _ v2 rfl rfl) h2 wf_i64
  exact by
    obtain ⟨A0, k0, c0, rfl, hm, hcb⟩ := Sma.mp_arr r0
    obtain ⟨X1, m1, c1, rfl, hd⟩ := Blo.op_arr r1
    exact done_walk W (Sma.toMp a0) A0 k0 c0 hm (Blo.toOp a1) X1 m1 c1 hd z2 hz2

/-- PlanDone, for every input: the statement as it was given. -/
theorem planDone_holds : Rows.PlanDoneSaid :=
  OpenClaim.holds_of_wide 6 Try.f6 rfl rfl rfl rfl rfl rfl rfl ⟨rfl, rfl, rfl, rfl, rfl⟩ rfl rfl rfl rfl rfl (by kernel_rfl) Try.func6 (by kernel_rfl)
    (of_decide_eq_true (by kernel_rfl)) (by unfold Func.isWrapper; first | (rw [if_pos (by decide +kernel)]; kernel_rfl) | (rw [if_neg (by decide +kernel)]; exact ⟨rfl, rfl⟩))
    (fun os started H enc _ => planDone_lifted os started H enc)
end Go.Proofs.Ytdcggnfplfgcnaa
