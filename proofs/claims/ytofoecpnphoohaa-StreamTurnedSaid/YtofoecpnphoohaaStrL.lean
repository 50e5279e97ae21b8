/- Layer 10: Feed. -/
import Derived.Test.YtofoecpnphoohaaStrK
set_option linter.all false
namespace Go.Proofs.Ytofoecpnphoohaa
open Go.RowKit
namespace Str
open Blo (I64)
/-- What a Reader is behind a Feed. -/
def feedS (s : Rdr) (xs : List UInt8) : Rdr :=
  let t := runR (s.b ++ xs)
  ⟨t.2.1, s.at_ + t.2.2.2, t.2.2.1, if t.2.2.1 = 0 then 0 else ((s.at_ + t.2.2.2 : Nat) : Int)⟩
/-- What a Feed answers. -/
def FeA (w w' : World) (e : Ending) (base br : Nat) (s : Rdr) (xs : List UInt8) : Prop :=
  ∃ (A : Option Addr) (m c : Nat) (L : List (Rec × Value)), e = .returned (.slice A m c) ∧ Orl w' w.heap.size (.slice A m c) m L ∧ L.map Prod.fst = (runR (s.b ++ xs)).1 ∧ Rdo w' base br (feedS s xs) ∧ w.grownBy w' (some br)
/-- Feed on its way. -/
structure Fst (w wr : World) (base br k0 : Nat) (v0 vC : Value) (nC : Nat) (tot : List UInt8) (A : Option Addr) (n c : Nat) (zs : List UInt8) (v : Value) (m : Nat) (L : List (Rec × Value)) (k : Nat) : Prop where
  rd : Blk wr br 50 #[.bool true, v0, .int .i64 ((k0 + k : Nat) : Int), .int .i64 0, .int .i64 0]
  con : wr.ownsRow w.heap.size 5 1 vC nC (bvs tot)
  ats : ∀ a, A = some a → vC.ownBlock = some a.block
  bs : Bs wr A n zs
  nil : A = none → n = 0 ∧ c = 0
  le : n ≤ c
  cap : c ≤ 9223372036854775807
  out : Orl wr w.heap.size v m L
  run : runR tot = (L.map Prod.fst ++ (runR zs).1, (runR zs).2.1, (runR zs).2.2.1, k + (runR zs).2.2.2)
  sum : k + n = tot.length
  many : m ≤ k
  grown : w.grownBy wr (some br)
theorem firstR_sm' {zs : List UInt8} (h : goes zs = true) : Sm (firstR zs) := by
  have := (enc_dec _ ((goes_iff zs).1 h).2.2.2).2
  exact this.1.sm this.2
theorem Fst.keep {w wr w2 : World} {base br k0 : Nat} {v0 vC : Value} {nC : Nat} {tot : List UInt8} {A : Option Addr} {n c : Nat} {zs : List UInt8} {v : Value} {m : Nat} {L : List (Rec × Value)} {k : Nat} (h : Fst w wr base br k0 v0 vC nC tot A n c zs v m L k) (hb : Below wr.heap.size wr w2) : Fst w w2 base br k0 v0 vC nC tot A n c zs v m L k :=
  ⟨h.rd.keep hb, own_keep h.con hb, h.ats, h.bs.below hb, h.nil, h.le, h.cap, h.out.keep hb, h.run, h.sum, h.many, ⟨hb.os.trans h.grown.os, hb.tape.trans h.grown.tape, hb.output.trans h.grown.output, Nat.le_trans h.grown.size hb.size, fun i hi hne => (hb.block i (Nat.lt_of_lt_of_le hi h.grown.size)).trans (h.grown.block i hi hne)⟩⟩
theorem Fst.alloc {w wr : World} {base br k0 : Nat} {v0 vC : Value} {nC : Nat} {tot : List UInt8} {A : Option Addr} {n c : Nat} {zs : List UInt8} {v : Value} {m : Nat} {L : List (Rec × Value)} {k : Nat} (h : Fst w wr base br k0 v0 vC nC tot A n c zs v m L k) (o : Obj) : Fst w (wr.alloc o) base br k0 v0 vC nC tot A n c zs v m L k :=
  h.keep ((Below.refl _ _).alloc (Nat.le_refl _) _)
theorem Fst.go {w wr w5 : World} {base br k0 : Nat} {v0 vC : Value} {nC : Nat} {tot : List UInt8} {A B : Option Addr} {n c d S : Nat} {zs : List UInt8} {v v' dv : Value} {m : Nat} {L : List (Rec × Value)} {k : Nat} {rr : Rec} (h : Fst w wr base br k0 v0 vC nC tot A n c zs v m L k) (hbr : br < w.heap.size)
    (hg : wr.grownBy w5 v.ownBlock) (hr : w5.ownsRow w.heap.size 39 8 v' (m + 1) (rvs L ++ rvs [(rr, dv)])) (hd : wr.ownsRow w.heap.size 52 1 dv rr.d.length (nvs rr.d)) (hgo : goes zs = true) (hS : S = 8 + numAt zs) (hrr : firstR zs = rr) (hSn : S ≤ n)
    (hB : Bs wr B (n - S) (zs.drop S)) (hBa : ∀ a, B = some a → vC.ownBlock = some a.block) (hBn : B = none → n - S = 0 ∧ d = 0) (hBl : n - S ≤ d) (hBc : d ≤ 9223372036854775807) :
    Fst w (w5.setCell ⟨br, 2, none⟩ (.int .i64 ((k0 + (k + S) : Nat) : Int))) base br k0 v0 vC nC tot B (n - S) d (zs.drop S) v' (m + 1) (L ++ [(rr, dv)]) (k + S) := by
  subst hS
  have hlo : ∀ j, v.ownBlock = some j → w.heap.size ≤ j := fun j hj => (h.out.row.lt j hj).1
  have hs := grown_setCell w5 ⟨br, 2, none⟩ (.int .i64 ((k0 + (k + (8 + numAt zs)) : Nat) : Int))
  have hne : ∀ {u : Value} {q : Nat} {ys : List Value}, wr.ownsRow w.heap.size 5 1 u q ys → ∀ j, u.ownBlock = some j → some j ≠ v.ownBlock := fun hu j hj e => own_ne h.out.row hu (by decide) e.symm hj
  have hrd5 : Blk w5 br _ _ := h.rd.grown hg (fun e => by have := hlo br e.symm; omega)
  have hcon5 := own_grown h.con hg (hne h.con)
  have hbs5 : Bs w5 B (n - (8 + numAt zs)) (zs.drop (8 + numAt zs)) := hB.grown hg (fun a ha => hne h.con a.block (hBa a ha))
  have hout5 : Orl w5 w.heap.size v' (m + 1) (L ++ [(rr, dv)]) := h.out.app hg hr (fun p hp => by rw [List.mem_singleton.1 hp]; exact hd) (fun p hp => by rw [List.mem_singleton.1 hp, ← hrr]; exact (firstR_sm' hgo))
  have hblo : ∀ j, (some br : Option Nat) = some j → j < w.heap.size := fun j hj => by injection hj with hj; omega
  refine ⟨hrd5.setCell 2 _, own_grown hcon5 hs (fun j hj e => by injection e with e; have := (hcon5.lt j hj).1; simp only at e; omega), hBa, hbs5.grown hs (fun a ha e => by injection e with e; have := (hcon5.lt _ (hBa a ha)).1; simp only at e; omega), hBn, hBl, hBc, hout5.grown hs hblo, ?_, by have := h.sum; omega, by have := h.many; omega, ?_⟩
  · rw [h.run, runR_goes zs hgo, hrr]
    simp only [List.map_append, List.map_cons, List.map_nil, List.append_assoc, List.cons_append, List.nil_append, Nat.add_assoc]
  · have h1 := h.grown
    refine ⟨hs.os.trans (hg.os.trans h1.os), hs.tape.trans (hg.tape.trans h1.tape), hs.output.trans (hg.output.trans h1.output), Nat.le_trans h1.size (Nat.le_trans hg.size hs.size), fun i hi hne' => ?_⟩
    have hi1 := Nat.lt_of_lt_of_le hi h1.size
    rw [hs.block i (Nat.lt_of_lt_of_le hi1 hg.size) hne', hg.block i hi1 (fun e => by have := hlo i e.symm; omega), h1.block i hi hne']
theorem firstR_sm {zs : List UInt8} (h : goes zs = true) : MayR (firstR zs) ∧ W64 (firstR zs).d := (enc_dec _ ((goes_iff zs).1 h).2.2.2).2
theorem goes_fail {zs : List UInt8} (h : goes zs = true) : failE zs = 0 := by
  obtain ⟨h8, h7, hl, hd⟩ := (goes_iff zs).1 h
  unfold failE
  rw [if_neg (by omega), if_neg (by omega), if_neg (by omega), hd]
theorem frozen_of {w : World} {b : Nat} {t : TypeId} {cs : Array Value} (h : Blk w b t cs) : ∀ j, w.frozen? ⟨b, j, none⟩ = false := h.free
section
variable (w : World)
/-- A nil Reader, and one that nobody made, reads nothing. -/
theorem feed_nil (A : Option Addr) (n c : Nat) : Calls Try.prog 10 #[.pointer none, .slice A n c] w fun e w' => e = .returned (.slice none 0 0) ∧ w = w' := by
  go_enter Try.func10, Try.ntmps10
  go_wp2
  go_ret
  exact ⟨rfl, rfl⟩
theorem feed_none (br : Nat) (A : Option Addr) (n c : Nat) (h : w.cell? ⟨br, 0, none⟩ = some (.bool false)) : Calls Try.prog 10 #[.pointer (some ⟨br, 0, none⟩), .slice A n c] w fun e w' => e = .returned (.slice none 0 0) ∧ w = w' := by
  go_enter Try.func10, Try.ntmps10
  go_wp2
  go_ret
  exact ⟨rfl, rfl⟩
set_option maxRecDepth 100000 in
set_option maxHeartbeats 8000000 in
theorem feed_ (base br : Nat) (s : Rdr) (A : Option Addr) (n c : Nat) (xs : List UInt8) (hs : Rdo w base br s) (hf : s.why = 0 ∧ s.fat = 0) (h : Bs w A n xs) (hnc : n ≤ c) (hc : c ≤ 9223372036854775807) (hn : s.b.length + n ≤ 1000000) (hat : s.at_ ≤ 1000000000) :
    Calls Try.prog 10 #[.pointer (some ⟨br, 0, none⟩), .slice A n c] w fun e w' => FeA w w' e base br s xs := by
  obtain ⟨v, h1, h2, h3⟩ := hs
  obtain ⟨bb, k0, why, fat⟩ := s
  obtain ⟨rfl, rfl⟩ : why = 0 ∧ fat = 0 := hf
  dsimp only at h1 h2 hn hat
  have hbl := h1.lt
  obtain ⟨A0, c0, rfl, hc0, hm0, ha0⟩ := own_form h2
  unfold maxLen at hm0
  have e0 := h1.cell (j := 0) (u := .bool true) rfl
  have e1 := h1.cell (j := 1) (u := .slice A0 bb.length c0) rfl
  have e2 := h1.cell (j := 2) (u := .int .i64 (k0 : Int)) rfl
  have e3 := h1.cell (j := 3) (u := .int .i64 0) rfl
  have e4 := h1.cell (j := 4) (u := .int .i64 0) rfl
  have hpp : Bss (w.alloc (.cells #[.slice A0 bb.length c0, .slice A n c] 23)) (some ⟨w.heap.size, 0, none⟩) 2 [bb, xs] := Bss.of2 (bs_own h2) h hc0 hm0 hnc hc _
  have hxl := h.len
  have hlen : lens [bb, xs] ≤ 140737488351300 := by simp [lens]; omega
  have Hxl := Lib.hid hxl
  clear hxl
  obtain ⟨bn, hbn⟩ : ∃ bn, bb.length = bn := ⟨_, rfl⟩
  rw [hbn] at e1 hpp
  have Hbn := Lib.hid hbn
  clear hbn
  go_enter Try.func10, Try.ntmps10
  go_wp2_with fail
  refine (concat_ _ _ 2 2 [bb, xs] hpp (by omega) hlen).mono ?_
  rintro e w1 ⟨v1, rfl, hown1, hb1⟩
  have hba : Below w.heap.size w (w.alloc (.cells #[.slice A0 bn c0, .slice A n c] 23)) := (Below.refl _ _).alloc (Nat.le_refl _) _
  have hB1 := below_step hba hb1 (Nat.le_refl _)
  obtain ⟨tot, htot⟩ : ∃ tot, bb ++ xs = tot := ⟨_, rfl⟩
  have hfl : [bb, xs].flatten = tot := by rw [← htot]; simp
  rw [lens_all, hfl] at hown1
  have htl : tot.length ≤ 1000000 := by rw [← htot, List.length_append, Hbn.out, ← Hxl.out]; have := Hbn.out; omega
  have hown1 := hown1.mono (base' := w.heap.size) (by simp)
  have h4 := h1.keep hB1
  obtain ⟨tn, htn⟩ : ∃ tn, tot.length = tn := ⟨_, rfl⟩
  rw [htn] at hown1 htl
  obtain ⟨A1, c1, rfl, hc1, hm1, ha1⟩ := own_form hown1
  unfold maxLen at hm1
  have hF0 : Fst w w1 base br k0 (.slice A0 bn c0) (.slice A1 tn c1) tn tot A1 tn c1 tot (.slice none 0 0) 0 [] 0 :=
    ⟨by rw [Hbn.out] at h4; exact h4, hown1, fun a ha => by rw [ha]; rfl, bs_own hown1, ha1, hc1, hm1, Orl.nil _ _, by simp, by omega, Nat.le_refl _, below_grown hB1 _⟩
  have Ht := Lib.hid htot
  have Htn := Lib.hid htn
  have H1 := Lib.hid h1
  have H2 := Lib.hid h2
  clear htot htn hfl hown1 h4 hc1 hm1 ha1 hba hb1 hB1 h1 h2 e0 e1 e2 e3 e4 hpp hlen h
  go_wp2_with fail
  go_loopw [5, 6] (fun lv rv wr => ∃ (B : Option Addr) (q d : Nat) (zs : List UInt8) (m : Nat) (L : List (Rec × Value)) (k : Nat), rv = .slice B q d ∧ Fst w wr base br k0 (.slice A0 bn c0) (.slice A1 tn c1) tn tot B q d zs lv m L k) (fun _ rv _ => match rv with | .slice _ q _ => q | _ => 0)
  case atStart => exact ⟨_, _, _, _, _, _, _, rfl, hF0⟩
  case round =>
    obtain ⟨B, q, d, zs, m, L, k, rfl, hF⟩ := hrel
    have hsum := hF.sum
    have hqn : k + q = tn := by rw [hsum, Htn.out]
    have hout := hF.out
    obtain ⟨Al, cl, rfl, hcl, hml, hal⟩ := own_form hout.row
    have Hq := Lib.hid hqn
    have hq1 : q ≤ 1000000 := by omega
    have hk1 : k ≤ 1000000 := by omega
    have hrdb := hF.rd.lt
    have hmL : m ≤ 1000000 := Nat.le_trans hF.many hk1
    clear hF0 hsum hqn
    go_wp2_with fail
    refine (next_ _ B q d zs hF.bs hF.nil hF.le hF.cap (by omega)).mono ?_
    rintro e w2 ⟨X, c', rfl, hown2, hb2⟩
    have hF2 := hF.keep hb2
    have hsz2 := hb2.size
    have hszr := hF.grown.size
    have hown2 := hown2.mono (base' := w.heap.size) hszr
    have HE := Lib.hid (show nxE zs = failE zs from rfl)
    have HS := Lib.hid (show nxN zs = if goes zs = true then 8 + numAt zs else 0 from rfl)
    have HR := Lib.hid (show nxR zs = if goes zs = true then firstR zs else ⟨0, 0, 0, 0, 0, 0, 0, []⟩ from rfl)
    obtain ⟨rr, hrr⟩ : ∃ rr, nxR zs = rr := ⟨_, rfl⟩
    obtain ⟨S, hS⟩ : ∃ S, nxN zs = S := ⟨_, rfl⟩
    obtain ⟨E, hE⟩ : ∃ E, nxE zs = E := ⟨_, rfl⟩
    rw [hrr] at hown2 HR ⊢
    rw [hS] at HS ⊢
    rw [hE] at HE ⊢
    obtain ⟨nn, hnn⟩ : ∃ nn, rr.d.length = nn := ⟨_, rfl⟩
    rw [hnn] at hown2 ⊢
    have Hnn := Lib.hid hnn
    clear hrr hS hE hnn hF hb2 hszr
    have hF3 := hF2.alloc (.cells (ra rr (.slice X nn c')) 39)
    have hbz := hF3.rd.lt
    have e0 := hF3.rd.cell (j := 0) (u := .bool true) rfl
    have e1 := hF3.rd.cell (j := 1) (u := .slice A0 bn c0) rfl
    have e2 := hF3.rd.cell (j := 2) (u := .int .i64 ((k0 + k : Nat) : Int)) rfl
    have e3 := hF3.rd.cell (j := 3) (u := .int .i64 0) rfl
    have e4 := hF3.rd.cell (j := 4) (u := .int .i64 0) rfl
    have z := hF3.rd.free
    have hnew := Blk.new w2 39 (ra rr (.slice X nn c')) rfl
    cases hg : goes zs with
    | false =>
      have HS0 := Lib.hid (show S = 0 by rw [HS.out, hg]; rfl)
      by_cases hE0 : failE zs = 0
      · have HE0 := Lib.hid (show E = 0 by rw [HE.out, hE0])
        obtain rfl := HS0.out
        obtain rfl := HE0.out
        have Hrun := Lib.hid (show runR zs = ([], zs, 0, 0) by rw [runR_stops zs hg, hE0]; rfl)
        clear hg hE0 hnew
        go_wp2_with fail
        refine (sclone_ _ B q d zs hF3.bs hF3.nil hF3.le hF3.cap (by omega)).mono ?_
        rintro e w4 ⟨v4, rfl, hown4, hb4⟩
        have hF4 := hF3.keep hb4
        have hszw : w.heap.size ≤ w4.heap.size := hF4.grown.size
        have hz3 : w.heap.size ≤ (w2.alloc (.cells (ra rr (.slice X nn c')) 39)).heap.size := hF3.grown.size
        obtain ⟨A4, c4, rfl, hc4, hm4, ha4⟩ := own_form hown4
        clear e0 e1 e2 e3 e4 z
        have e1 := hF4.rd.cell (j := 1) (u := .slice A0 bn c0) rfl
        have z := hF4.rd.free
        have Hlz := Lib.hid hF4.bs.len
        go_wp2
        go_ret
        have hs5 := grown_setCell w4 ⟨br, 1, none⟩ (.slice A4 q c4)
        have hfs : feedS ⟨bb, k0, 0, 0⟩ xs = ⟨zs, k0 + k, 0, 0⟩ := by
          unfold feedS
          dsimp only
          rw [Ht.out, hF4.run, Hrun.out]
          simp
        refine ⟨Al, m, cl, L, rfl, hF4.out.grown hs5 (fun j hj => by injection hj with hj; simp only at hj; omega), ?_, ?_, grown_step hF4.grown hs5 (fun j hj => .inr hj)⟩
        · dsimp only
          rw [Ht.out, hF4.run, Hrun.out]
          simp
        · rw [hfs]
          refine ⟨.slice A4 q c4, hF4.rd.setCell 1 _, ?_, h3⟩
          dsimp only
          rw [← Hlz.out]
          exact (own_grown hown4 hs5 (fun j hj e => by injection e with e; have := (hown4.lt j hj).1; simp only at e; omega)).mono (by omega)
      · have HE0 := Lib.hid (show ¬ E = 0 by rw [HE.out]; exact hE0)
        have hEn := HE0.out
        obtain rfl := HS0.out
        have Hrun := Lib.hid (show runR zs = ([], [], E, 0) by rw [runR_stops zs hg, if_neg hE0, HE.out])
        clear hg hE0 hnew
        go_wp2
        go_ret
        have hs4 := grown_setCell (w2.alloc (.cells (ra rr (.slice X nn c')) 39)) ⟨br, 3, none⟩ (.int .i64 E)
        have hs5 := grown_setCell ((w2.alloc (.cells (ra rr (.slice X nn c')) 39)).setCell ⟨br, 3, none⟩ (.int .i64 E)) ⟨br, 4, none⟩ (.int .i64 ((k0 : Int) + (k : Int)))
        have hs6 := grown_setCell (((w2.alloc (.cells (ra rr (.slice X nn c')) 39)).setCell ⟨br, 3, none⟩ (.int .i64 E)).setCell ⟨br, 4, none⟩ (.int .i64 ((k0 : Int) + (k : Int)))) ⟨br, 1, none⟩ (.slice none 0 0)
        have hs := grown_step (grown_step hs4 hs5 (fun j hj => .inr hj)) hs6 (fun j hj => .inr hj)
        have hE0' := HE0.out
        have hfs : feedS ⟨bb, k0, 0, 0⟩ xs = ⟨[], k0 + k, E, (k0 : Int) + (k : Int)⟩ := by
          unfold feedS
          dsimp only
          rw [Ht.out, hF3.run, Hrun.out]
          simp [hE0']
        refine ⟨Al, m, cl, L, rfl, hF3.out.grown hs (fun j hj => by injection hj with hj; simp only at hj; omega), ?_, ?_, grown_step hF3.grown hs (fun j hj => .inr hj)⟩
        · dsimp only
          rw [Ht.out, hF3.run, Hrun.out]
          simp
        · rw [hfs]
          exact ⟨.slice none 0 0, ((hF3.rd.setCell 3 _).setCell 4 _).setCell 1 _, own_nil _ _ _ _, h3⟩
    | true =>
      have hgi := (goes_iff zs).1 hg
      have HSv := Lib.hid (show S = 8 + numAt zs by rw [HS.out, if_pos hg])
      have HRv := Lib.hid (show firstR zs = rr by rw [HR.out, if_pos hg])
      have HE0 := Lib.hid (show E = 0 by rw [HE.out, goes_fail hg])
      have Hg := Lib.hid hg
      have hSq : S ≤ q := by have := HSv.out; have := hF3.bs.len; omega
      have hS0 : ¬ (S : Int) = 0 := by have := HSv.out; omega
      obtain rfl := HE0.out
      obtain ⟨i0, hi0, hz0, hz1, hz2⟩ := rec_info
      have Hz := Lib.hid hz2
      clear hz2 hg hgi
      have hF4 := hF3.alloc (.cells (ra rr (.slice X nn c')) 39)
      have hnews : Rd ((w2.alloc (.cells (ra rr (.slice X nn c')) 39)).alloc (.cells (ra rr (.slice X nn c')) 39)) (some ⟨w2.heap.size + 1, 0, none⟩) 8 1 (rvs [(rr, .slice X nn c')]) := rd_new1 _ rr X nn c' _ (by simp)
      have hone : ∀ u ∈ rvs [(rr, Value.slice X nn c')], u.oneCell' = true := rvs_one (by simp)
      have hz4 : w.heap.size ≤ ((w2.alloc (.cells (ra rr (.slice X nn c')) 39)).alloc (.cells (ra rr (.slice X nn c')) 39)).heap.size := hF4.grown.size
      have hdat : ((w2.alloc (.cells (ra rr (.slice X nn c')) 39)).alloc (.cells (ra rr (.slice X nn c')) 39)).ownsRow w.heap.size 52 1 (.slice X nn c') rr.d.length (nvs rr.d) := by
        rw [Hnn.out]
        exact own_keep (own_keep hown2 ((Below.refl _ _).alloc (Nat.le_refl _) _)) ((Below.refl _ _).alloc (Nat.le_refl _) _)
      obtain ⟨y0, y1, y2, y3, y4, y5, y6, y7⟩ := k8 hnew
      have hbs4 := hF4.bs
      have hle4 := hF4.le
      have hcap4 := hF4.cap
      have hats := hF4.ats
      have hdrop := hbs4.drop (k := S) (cap := d) hSq hle4
      obtain ⟨bq, oq, rfl, _⟩ := hbs4.at_ (k := 0) (by omega)
      have t1 : (0 : Int) ≤ (S : Int) := by omega
      have t2 : (S : Int) ≤ (q : Int) := by omega
      have t3 : (q : Int) ≤ (d : Int) := by omega
      have t4 : (S : Int) ≤ (d : Int) := by omega
      have t5 : S ≤ d := by omega
      by_cases hdS : d = S
      · have hqS : q = S := by omega
        subst hqS
        subst hdS
        rw [if_pos rfl] at hdrop
        have hnil : Bs ((w2.alloc (.cells (ra rr (.slice X nn c')) 39)).alloc (.cells (ra rr (.slice X nn c')) 39)) (some ⟨bq, oq, none⟩) (d - d) (zs.drop d) := hdrop
        have hcast : (k0 : Int) + (k : Int) + (d : Int) = ((k0 + (k + d) : Nat) : Int) := by omega
        have hSp : 0 < d := by omega
        have Hcast := Lib.hid hcast
        clear hcast
        have hnext := fun (v5 : Value) (w5 : World) (hown5 : w5.ownsRow w.heap.size 39 8 v5 (m + 1) (rvs L ++ rvs [(rr, .slice X nn c')])) hg5 => hF4.go hbl hg5 hown5 hdat Hg.out HSv.out HRv.out hSq hnil (fun a ha => by injection ha with ha; subst ha; exact hats ⟨bq, oq, none⟩ rfl) (fun e => by cases e) (show d - d ≤ 0 by omega) (by omega)
        go_wp2_with (first
          | (at_builtin
             refine wpList_app _ rfl (.tmp 63) (.tmp 65) _ rfl w.heap.size 39 i0 (.agg ra0) 8 80 Try.underlying22 hi0 hz0 hz1 Hz.out rfl (by omega) (.slice Al m cl) m (rvs L) rfl hF4.out.row _ 1 1 _ rfl (by simp) hnews hone (by unfold maxLen; omega) (by omega) hz4 ?_
             intro v5 w5 hown5 hg5 hat5
             have hF5 := hnext v5 w5 hown5 hg5
             rw [Nat.sub_self] at hF5
             have hrd5 : Blk w5 br _ _ := hF4.rd.grown hg5 (fun e => by have := (hF4.out.row.lt br e.symm).1; omega)
             have g2 := hrd5.cell (j := 2) (u := .int .i64 ((k0 + k : Nat) : Int)) rfl
             have zz := hrd5.free
             obtain ⟨A5, c5, rfl, hc5, hm5, ha5⟩ := own_form hown5))
        go_roundw
        case rel => exact ⟨_, _, _, _, _, _, _, rfl, by rw [Hcast.out]; exact hF5⟩
        case measure => show 0 < d; exact hSp
      · rw [if_neg hdS] at hdrop
        simp only [Option.map_some, add_plain] at hdrop
        have hcast : (k0 : Int) + (k : Int) + (S : Int) = ((k0 + (k + S) : Nat) : Int) := by omega
        have hSp : 0 < S := by omega
        have Hcast := Lib.hid hcast
        clear hcast
        have hnext := fun (v5 : Value) (w5 : World) (hown5 : w5.ownsRow w.heap.size 39 8 v5 (m + 1) (rvs L ++ rvs [(rr, .slice X nn c')])) hg5 => hF4.go hbl hg5 hown5 hdat Hg.out HSv.out HRv.out hSq hdrop (fun a ha => by injection ha with ha; subst ha; exact hats ⟨bq, oq, none⟩ rfl) (fun e => by cases e) (Nat.sub_le_sub_right hle4 S) (by omega)
        go_wp2_with (first
          | (at_builtin
             refine wpList_app _ rfl (.tmp 63) (.tmp 65) _ rfl w.heap.size 39 i0 (.agg ra0) 8 80 Try.underlying22 hi0 hz0 hz1 Hz.out rfl (by omega) (.slice Al m cl) m (rvs L) rfl hF4.out.row _ 1 1 _ rfl (by simp) hnews hone (by unfold maxLen; omega) (by omega) hz4 ?_
             intro v5 w5 hown5 hg5 hat5
             have hF5 := hnext v5 w5 hown5 hg5
             have hrd5 : Blk w5 br _ _ := hF4.rd.grown hg5 (fun e => by have := (hF4.out.row.lt br e.symm).1; omega)
             have g2 := hrd5.cell (j := 2) (u := .int .i64 ((k0 + k : Nat) : Int)) rfl
             have zz := hrd5.free
             obtain ⟨A5, c5, rfl, hc5, hm5, ha5⟩ := own_form hown5))
        go_roundw
        case rel => exact ⟨_, _, _, _, _, _, _, rfl, by rw [Hcast.out]; exact hF5⟩
        case measure => show q - S < q; omega
end
end Str
end Go.Proofs.Ytofoecpnphoohaa
