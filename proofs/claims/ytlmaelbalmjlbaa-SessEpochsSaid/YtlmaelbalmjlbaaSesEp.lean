/- Layer 16: of another epoch nothing comes, and behind a Begin nothing of before is open (SessEpochs). No condition. -/
import Derived.Test.YtlmaelbalmjlbaaSesAr
import Derived.Lib.MinMax
set_option linter.all false
namespace Go.Proofs.Ytlmaelbalmjlbaa
open Go.ChangeShapes Go.WideShapes Go.ChangeAt Go.RowKit
namespace Ses
open Net
/-- What the law's end is, whatever was sent. -/
structure Eps (e : En) (k : Nat) : Prop where
  n : e.n = 0
  p : e.p = 1
  ep : e.ep = 5
  a : e.a = 0
  c : e.c = 0
  l : e.l.length ≤ k
theorem Eps.send {e : En} {k : Nat} (h : Eps e k) (d : List UInt8) : Eps (sndS e d) (k + 1) := by
  unfold sndS
  split
  · exact ⟨h.n, h.p, h.ep, h.a, h.c, by have := h.l; simp; omega⟩
  · exact ⟨h.n, h.p, h.ep, h.a, h.c, by have := h.l; omega⟩
theorem beg_one {e : En} {ep : Int} (h : ¬ begE e ep = 0) : begE e ep = 1 := by
  unfold begE at h ⊢
  split
  · rfl
  · rename_i q; rw [if_neg q] at h; exact absurd rfl h
theorem wrn_epoch {e : En} {m : Ms} (h : ¬ m.ep = e.ep) : ¬ wrnE e m = 0 := by
  unfold wrnE
  split
  · decide
  · split
    · decide
    · split
      · decide
      · omega
theorem rd_lt {w : World} {A : Option Addr} {n : Nat} {d : List UInt8} (hr : Bs w A n d) : ∀ a, A = some a → 0 < n → a.block < w.heap.size := fun a ha hn => by
  obtain ⟨b, o, e, hx, hc⟩ := Rd.at_ hr hn
  rw [ha] at e
  injection e with e
  subst e
  exact cell_lt hc
theorem bss_nil {w : World} {A : Option Addr} {n c : Nat} {l : List (List UInt8)} (h : (Shp.slice bShp 24).R w [.slice A n c] l) : ∀ k, k < n → ∀ b o Y p q, A = some ⟨b, o, none⟩ → w.cell? ⟨b, o + k, none⟩ = some (.slice Y p q) → Y = none → p = 0 ∧ q = 0 := by
  obtain ⟨A', c', e, h1, h2, h3, h4, h5⟩ := h
  simp only [List.cons.injEq, Value.slice.injEq, and_true] at e
  obtain ⟨rfl, rfl, rfl⟩ := e
  intro k hk b o Y p q hA hc
  obtain ⟨b', o', vs, e', hl, hcs, hr⟩ := h5 k hk
  rw [hA] at e'
  injection e' with e'
  injection e' with e1 e2
  subst e1 e2
  have hr' := hr
  obtain ⟨Y', q', rfl, -⟩ := hr'
  have h0 := hcs 0 _ rfl
  have e1 : bShp.n = 1 := rfl
  rw [e1, Nat.mul_one, Nat.add_zero] at h0
  rw [hc] at h0
  injection h0 with h0
  injection h0 with t1 t2 t3
  subst t1 t2 t3
  exact (bs_shp hr).2.2.1
section
variable (w : World)
set_option maxRecDepth 100000 in
set_option maxHeartbeats 8000000 in
theorem epochs_walk (A : Option Addr) (n c : Nat) (xs : List (List UInt8)) (h : Bss w A n xs) (hnc : n ≤ c) (hc : c ≤ 9223372036854775807) (hA : A = none → n = 0 ∧ c = 0) (hnil : ∀ k, k < n → ∀ b o Y p q, A = some ⟨b, o, none⟩ → w.cell? ⟨b, o + k, none⟩ = some (.slice Y p q) → Y = none → p = 0 ∧ q = 0)
    (m : Ms) (X : Option Addr) (mn mc : Nat) (hm : Mdt w m X mn mc) (ep : Int) (hep : I64 ep) :
    Calls Try.prog 6 #[.slice A n c, .agg (ma m (.slice X mn mc)), .int .i64 ep] w fun r w' => r = .returned (.bool true) ∧ Below w.heap.size w w' := by
  obtain ⟨q, hq⟩ : ∃ q, min n 20 = q := ⟨_, rfl⟩
  have hqi : min (n : Int) 20 = (q : Int) := by omega
  have hqn : q ≤ n := by omega
  have hq20 : q ≤ 20 := by omega
  have hqni : (q : Int) ≤ (n : Int) := by omega
  have hqci : (q : Int) ≤ (c : Int) := by omega
  have hq0 : (0 : Int) ≤ (q : Int) := by omega
  have H := Lib.hid h
  have HN := Lib.hid hnil
  have HX := Lib.hid (rd_lt hm.bs)
  have hac := Blk.new w 36 (ma m (.slice X mn mc)) rfl
  obtain ⟨w1, hw1⟩ : ∃ w1, w.alloc (.cells (ma m (.slice X mn mc)) 36) = w1 := ⟨_, rfl⟩
  have hs1 : w1.heap.size = w.heap.size + 1 := by rw [← hw1]; simp
  have hb1 : Below w.heap.size w w1 := by rw [← hw1]; exact (Below.refl _ _).alloc (Nat.le_refl _) _
  rw [hw1] at hac
  have HM1 := Lib.hid hm
  clear hq h hnil hm
  go_enter Try.func6, Try.ntmps6
  go_wp2_with fail
  refine (new_yes w1 0 1 5 (by decide)).mono ?_
  rintro r w2 ⟨rfl, hE2, hb2, hs2⟩
  obtain ⟨b, hb⟩ : ∃ b, w1.heap.size = b := ⟨_, rfl⟩
  have hbw : w.heap.size < b := by omega
  rw [hb] at hE2 hb2 hs2 ⊢
  have hB2 : Below w.heap.size w w2 := hb1.trans (hb2.mono (by omega))
  have hac2 := hac.keep (by rw [hb]; exact hb2)
  have hsw : b < w2.heap.size := by omega
  clear hb1 hac hb2 hs1 hb hs2 hw1
  go_wp2_with fail
  refine (alive_ w2).mono ?_
  rintro r w3 ⟨rfl, hb3⟩
  have hB3 : Below w.heap.size w w3 := hB2.trans (hb3.mono (by omega))
  have hac3 := hac2.keep hb3
  have hE3 : Ed w3 b (fun k => k ≠ b ∧ k < w3.heap.size) (newS 0 1 5) := (hE2.keep hb3).sub (fun k hk _ => hk.elim) (fun q => q.1 rfl)
  have hs3 := hb3.size
  clear hE2 hB2 hac2 hb3
  go_wp2_with fail
  go_loopw [35] (fun iv wr => ∃ (i : Nat) (E : En), i ≤ q ∧ iv = .int .i64 (i : Int) ∧ Ed wr b (fun k => k ≠ b ∧ k < wr.heap.size) E ∧ Eps E i ∧ Blk wr w.heap.size 36 (ma m (.slice X mn mc)) ∧ Below w.heap.size w wr ∧ w3.heap.size ≤ wr.heap.size) (fun iv _ => q - (intOf iv).toNat)
  case atStart => exact ⟨0, _, Nat.zero_le _, rfl, hE3, ⟨rfl, rfl, rfl, rfl, rfl, Nat.zero_le _⟩, hac3, hB3, Nat.le_refl _⟩
  case round =>
    obtain ⟨i, E, hi, rfl, hE, hEp, hak, hB, hsz⟩ := hrel
    have hi0 : (0 : Int) ≤ (i : Int) := by omega
    have HEp := Lib.hid hEp
    clear hEp
    by_cases hlt : i < q
    · have hil : (i : Int) < (q : Int) := by omega
      obtain ⟨ba, oa, Y, p, cy, rfl, hcy, hpc, hcy2, hbs⟩ := (H.out.below hB).2 i (by have := H.out.1; omega)
      have hcy0 : w.cell? ⟨ba, oa + i, none⟩ = some (.slice Y p cy) := by
        obtain ⟨ba', oa', Y', p', cy', e', hcy', _⟩ := H.out.2 i (by have := H.out.1; omega)
        injection e' with e'
        injection e' with e1 e2
        subst e1 e2
        have := (hB.cell (cell_lt hcy')).trans hcy'
        rw [hcy] at this
        rw [hcy', this]
      have hYn := HN.out i (by omega) ba oa Y p cy rfl hcy0
      have hS := send_ wr b _ E hE Y p cy _ hbs hYn hpc hcy2
      clear hcy0 hbs hYn
      go_wp2_with fail
      refine hS.mono ?_
      rintro r w4 ⟨rfl, hE4, hF4⟩
      have hE5 := hE4.sub (U' := fun k => k ≠ b ∧ k < w4.heap.size) (fun k hk hl => hk.elim (fun q => ⟨q.1, hl⟩) (fun q => ⟨by omega, hl⟩)) (fun q => q.1 rfl)
      have hak4 := blk_fu hak hF4 (by omega)
      have hB4 := hB.trans (hF4.below (B := w.heap.size) (by omega) (fun j q => by omega))
      have hs4 := hF4.size
      clear hS hE4 hF4 hE hak hB hcy
      go_wp2
      exact ⟨⟨i + 1, _, by omega, by go_num, hE5, HEp.out.send _, hak4, hB4, by omega⟩, by simp [intOf]; omega⟩
    · have hin : ¬ (i : Int) < (q : Int) := by omega
      have hEp := HEp.out
      obtain ⟨d0, d1, d2, d3, d4, d5, d6⟩ := ma_blk hak
      obtain ⟨z, hz0⟩ : ∃ z, E.l.length - E.a = z := ⟨_, rfl⟩
      have HO := Lib.hid hz0
      have hO := open_ wr b _ E hE
      rw [hz0] at hO
      have hC := came_ wr b _ E hE
      rw [hEp.c] at hC
      have HE := Lib.hid hEp
      clear hEp hz0
      go_wp2_with fail
      refine hO.mono ?_
      rintro r w9 ⟨rfl, rfl⟩
      by_cases h5 : m.ep = 5
      · have t5 := eq_t h5
        have t5n := ne_f h5
        have hz := hE
        have hBz := hB
        have hsz2 := hsz
        obtain ⟨wz, hwz⟩ : ∃ wz, wr = wz := ⟨_, rfl⟩
        rw [hwz] at hz hBz hsz2 ⊢
        rw [hwz] at d0 d1 d2 d3 d4 d5 d6
        clear h5 hwz hE hB hak hO hC
        by_cases hB : begE E ep = 0
        · have HS := Lib.hid (show begS E ep = newS 0 1 ep by unfold begS; rw [if_pos hB, HE.out.n, HE.out.p])
          have hG := begin_ wz b _ E hz ep
          rw [HS.out, hB] at hG
          clear hB
          go_wp2_with fail
          refine (hG).mono ?_
          rintro r wy ⟨rfl, hb, hF⟩
          have hb2 : Ed wy b (fun k => k ≠ b ∧ k < wy.heap.size) (newS 0 1 ep) := hb.sub (fun k hk hl => ⟨hk.1, hl⟩) (fun q => q.1 rfl)
          have hBy := hBz.trans (hF.below (B := w.heap.size) (by omega) (fun j q => by omega))
          have hsy := hF.size
          have te := eq_t (show ep = ep from rfl)
          have hO := open_ wy b _ _ hb2
          rw [show (((newS 0 1 ep).l.length - (newS 0 1 ep).a : Nat) : Int) = 0 from rfl] at hO
          have hC := came_ wy b _ _ hb2
          rw [show ((newS 0 1 ep).c : Int) = 0 from rfl] at hC
          clear hF hb hz
          go_wp2_with fail
          refine (epoch_ wy b _ _ hb2).mono ?_
          rintro r w9 ⟨rfl, rfl⟩
          rw [show (newS 0 1 ep).ep = ep from rfl]
          go_wp2_with fail
          refine (hO).mono ?_
          rintro r w9 ⟨rfl, rfl⟩
          go_wp2_with fail
          refine (hC).mono ?_
          rintro r w9 ⟨rfl, rfl⟩
          have hT := step_ wy b _ _ hb2 (fun k hk => hk.2) (by simp [newS]) (by simp [newS])
          go_wp2_with fail
          refine hT.mono ?_
          rintro r wx ⟨v, P, rfl, hP, hl, hbx, hFx⟩
          have hP0 : P = [] := by have h := congrArg List.length hl; rw [List.length_map, show stpL (newS 0 1 ep) = [] from rfl] at h; exact List.eq_nil_of_length_eq_zero h
          subst hP0
          have hrow := hP.row
          obtain ⟨A9, c9, rfl, _, _, _⟩ := own_form hrow
          clear hP hrow hT
          have hBx := hBy.trans (hFx.below (B := w.heap.size) (by omega) (fun j q => by omega))
          go_wp2
          go_ret
          exact ⟨rfl, hBx⟩
        · have HS := Lib.hid (show begS E ep = E by unfold begS; rw [if_neg hB])
          have hG := begin_ wz b _ E hz ep
          rw [HS.out] at hG
          have hB1 := beg_one hB
          have hep : ep ≤ 5 ∨ 2147483648 < ep := by
            unfold begE at hB1
            rw [HE.out.ep] at hB1
            split at hB1
            · assumption
            · cases hB1
          rw [hB1] at hG
          clear hB hB1
          go_wp2_with fail
          refine (hG).mono ?_
          rintro r wy ⟨rfl, hb, hF⟩
          have hb2 : Ed wy b (fun k => k ≠ b ∧ k < wy.heap.size) E := hb.sub (fun k hk hl => ⟨hk.1, hl⟩) (fun q => q.1 rfl)
          have hBy := hBz.trans (hF.below (B := w.heap.size) (by omega) (fun j q => by omega))
          have hE5 := epoch_ wy b _ _ hb2
          rw [HE.out.ep] at hE5
          have hO := open_ wy b _ _ hb2
          rw [HO.out] at hO
          clear hF hb hz
          have tz := eq_t (show (z : Int) = (z : Int) from rfl)
          rcases hep with hep | hep
          · go_wp2_with fail
            refine (hE5).mono ?_
            rintro r w9 ⟨rfl, rfl⟩
            go_wp2_with fail
            refine (hO).mono ?_
            rintro r w9 ⟨rfl, rfl⟩
            go_wp2
            go_ret
            exact ⟨by simp, hBy⟩
          · by_cases h5 : ep ≤ 5
            · go_wp2_with fail
              refine (hE5).mono ?_
              rintro r w9 ⟨rfl, rfl⟩
              go_wp2_with fail
              refine (hO).mono ?_
              rintro r w9 ⟨rfl, rfl⟩
              go_wp2
              go_ret
              exact ⟨by simp, hBy⟩
            · go_wp2_with fail
              refine (hE5).mono ?_
              rintro r w9 ⟨rfl, rfl⟩
              go_wp2_with fail
              refine (hO).mono ?_
              rintro r w9 ⟨rfl, rfl⟩
              go_wp2
              go_ret
              exact ⟨by simp, hBy⟩
      · have t5 := eq_f h5
        have t5n := ne_t h5
        have hwr := wrn_epoch (e := E) (m := m) (by rw [HE.out.ep]; exact h5)
        obtain ⟨r1, r2, r3⟩ := rcv_no hwr
        have tw := eq_f hwr
        have hR := recv_ wr b _ E hE (fun k hk => hk.2) (by have := HE.out.l; omega) (by rw [HE.out.c]; omega) m X mn mc (HM1.out.below hB) (fun a ha hn => by have := HX.out a ha hn; omega)
        obtain ⟨zz, hzz⟩ : ∃ zz, wrnE E m = zz := ⟨_, rfl⟩
        unfold RcvA at hR
        rw [r1, r2, r3, hzz] at hR
        rw [hzz] at tw
        clear h5 hwr r1 r2 r3 hzz hO hC
        go_wp2_with fail
        refine hR.mono ?_
        rintro r w4 ⟨v4, rfl, hown4, hE4, hF4⟩
        obtain ⟨A4, c4, rfl, _, _, _⟩ := own_form hown4
        have hz := hE4.sub (U' := fun k => k ≠ b ∧ k < w4.heap.size) (fun k hk hl => hk.elim (fun q => ⟨q.1, hl⟩) (fun q => ⟨by omega, hl⟩)) (fun q => q.1 rfl)
        have hBz := hB.trans (hF4.below (B := w.heap.size) (by omega) (fun j q => by omega))
        have hsz2 := hF4.size
        have hO := open_ w4 b _ E hz
        rw [HO.out] at hO
        have hC := came_ w4 b _ E hz
        rw [HE.out.c] at hC
        have tz := eq_t (show (z : Int) = (z : Int) from rfl)
        have tzn := ne_f (show (z : Int) = (z : Int) from rfl)
        clear hR hown4 hE4 hF4 hE hB hak d0 d1 d2 d3 d4 d5 d6
        go_wp2_with fail
        refine hO.mono ?_
        rintro r w9 ⟨rfl, rfl⟩
        go_wp2_with fail
        refine hC.mono ?_
        rintro r w9 ⟨rfl, rfl⟩
        obtain ⟨wz, hwz⟩ : ∃ wz, w4 = wz := ⟨_, rfl⟩
        rw [hwz] at hz hBz hsz2 ⊢
        clear hwz
        by_cases hB : begE E ep = 0
        · have HS := Lib.hid (show begS E ep = newS 0 1 ep by unfold begS; rw [if_pos hB, HE.out.n, HE.out.p])
          have hG := begin_ wz b _ E hz ep
          rw [HS.out, hB] at hG
          clear hB
          go_wp2_with fail
          refine (hG).mono ?_
          rintro r wy ⟨rfl, hb, hF⟩
          have hb2 : Ed wy b (fun k => k ≠ b ∧ k < wy.heap.size) (newS 0 1 ep) := hb.sub (fun k hk hl => ⟨hk.1, hl⟩) (fun q => q.1 rfl)
          have hBy := hBz.trans (hF.below (B := w.heap.size) (by omega) (fun j q => by omega))
          have hsy := hF.size
          have te := eq_t (show ep = ep from rfl)
          have hO := open_ wy b _ _ hb2
          rw [show (((newS 0 1 ep).l.length - (newS 0 1 ep).a : Nat) : Int) = 0 from rfl] at hO
          have hC := came_ wy b _ _ hb2
          rw [show ((newS 0 1 ep).c : Int) = 0 from rfl] at hC
          clear hF hb hz
          go_wp2_with fail
          refine (epoch_ wy b _ _ hb2).mono ?_
          rintro r w9 ⟨rfl, rfl⟩
          rw [show (newS 0 1 ep).ep = ep from rfl]
          go_wp2_with fail
          refine (hO).mono ?_
          rintro r w9 ⟨rfl, rfl⟩
          go_wp2_with fail
          refine (hC).mono ?_
          rintro r w9 ⟨rfl, rfl⟩
          have hT := step_ wy b _ _ hb2 (fun k hk => hk.2) (by simp [newS]) (by simp [newS])
          go_wp2_with fail
          refine hT.mono ?_
          rintro r wx ⟨v, P, rfl, hP, hl, hbx, hFx⟩
          have hP0 : P = [] := by have h := congrArg List.length hl; rw [List.length_map, show stpL (newS 0 1 ep) = [] from rfl] at h; exact List.eq_nil_of_length_eq_zero h
          subst hP0
          have hrow := hP.row
          obtain ⟨A9, c9, rfl, _, _, _⟩ := own_form hrow
          clear hP hrow hT
          have hBx := hBy.trans (hFx.below (B := w.heap.size) (by omega) (fun j q => by omega))
          go_wp2
          go_ret
          exact ⟨rfl, hBx⟩
        · have HS := Lib.hid (show begS E ep = E by unfold begS; rw [if_neg hB])
          have hG := begin_ wz b _ E hz ep
          rw [HS.out] at hG
          have hB1 := beg_one hB
          have hep : ep ≤ 5 ∨ 2147483648 < ep := by
            unfold begE at hB1
            rw [HE.out.ep] at hB1
            split at hB1
            · assumption
            · cases hB1
          rw [hB1] at hG
          clear hB hB1
          go_wp2_with fail
          refine (hG).mono ?_
          rintro r wy ⟨rfl, hb, hF⟩
          have hb2 : Ed wy b (fun k => k ≠ b ∧ k < wy.heap.size) E := hb.sub (fun k hk hl => ⟨hk.1, hl⟩) (fun q => q.1 rfl)
          have hBy := hBz.trans (hF.below (B := w.heap.size) (by omega) (fun j q => by omega))
          have hE5 := epoch_ wy b _ _ hb2
          rw [HE.out.ep] at hE5
          have hO := open_ wy b _ _ hb2
          rw [HO.out] at hO
          clear hF hb hz
          have tz := eq_t (show (z : Int) = (z : Int) from rfl)
          rcases hep with hep | hep
          · go_wp2_with fail
            refine (hE5).mono ?_
            rintro r w9 ⟨rfl, rfl⟩
            go_wp2_with fail
            refine (hO).mono ?_
            rintro r w9 ⟨rfl, rfl⟩
            go_wp2
            go_ret
            exact ⟨by simp, hBy⟩
          · by_cases h5 : ep ≤ 5
            · go_wp2_with fail
              refine (hE5).mono ?_
              rintro r w9 ⟨rfl, rfl⟩
              go_wp2_with fail
              refine (hO).mono ?_
              rintro r w9 ⟨rfl, rfl⟩
              go_wp2
              go_ret
              exact ⟨by simp, hBy⟩
            · go_wp2_with fail
              refine (hE5).mono ?_
              rintro r w9 ⟨rfl, rfl⟩
              go_wp2_with fail
              refine (hO).mono ?_
              rintro r w9 ⟨rfl, rfl⟩
              go_wp2
              go_ret
              exact ⟨by simp, hBy⟩
end
end Ses
open Ses Net

set_option maxRecDepth 100000 in
theorem sessEpochs_lifted (os : Os) (started : os.Started) (H : Type) (enc : TypeId × Value → H) :
    ReturnsInHanded {} Try.checked os 6 .any (Rows.sessEpochsSpec.pre6 enc Try.prog Try.f6 Rows.sessEpochsRow.domain false) (Rows.sessEpochsSpec.post enc Try.prog Try.f6 false true false false) := by
  refine law_lifted (C := Try.checked) (tb := 4) own_ started (by kernel_rfl) Try.func6
    (ChangeSpec.witness6 (enc := enc) (C := Try.checked) false ⟨#[], #[.slice none 0 0, .agg #[.int .i64 0, .int .i64 0, .int .i64 0, .int .i64 0, .int .i64 0, .int .i64 0, .slice none 0 0], .int .i64 0], []⟩ 8 (by kernel_rfl) (by kernel_rfl) (by kernel_rfl) (by kernel_rfl))
    rfl rfl Try.underlying4 laidOut_ (by kernel_rfl) (fun ds h => by match ds, h with | [_, _, _], _ => rfl) ?_
  intro W base args ds p hval0 hA0 _ hsz0
  have hval : ∀ (j : Nat) t v, Try.f6.params[j]? = some t → args[j]? = some v → Value.okWide Try.prog W .any base t v := hval0
  have hA : DataW.TrodAll enc Try.prog W 0 (fun _ => true) true Try.f6.params.toList args.toList ds p := hA0
  have hsz : (DataW.weightsEach Try.prog Try.f6.params.toList ds).all (· ≤ reachBytes) = true := hsz0
  clear hval0 hA0 hsz0
  rw [Try.params6] at hA hval hsz
  obtain ⟨v0, v1, v2, d0, d1, d2, p0, p1, p2, rfl, rfl, rfl, h0, h1, h2⟩ := trodAll_three hA
  obtain ⟨A0, n0, c0, xs0, rfl, r0, b0⟩ := arg_slice ops_bytess Try.underlying28 (hval 0 _ v0 rfl rfl) h0 (weight_at hsz (j := 0) rfl rfl)
  obtain ⟨hb0, hn0, ha0, hc0, hp0⟩ := bss_shp r0
  obtain ⟨cs1, a1, rfl, r1, b1⟩ := arg_struct ops_ms Try.underlying36 (hval 1 _ v1 rfl rfl) h1 (weight_at hsz (j := 1) rfl rfl)
  obtain ⟨z2, rfl, hz2⟩ := arg_int _ _ Try.underlying3 (hval 2 _ v2 rfl rfl) h2 wf_i64
  exact by
    obtain ⟨X, mn, mc, rfl, hm⟩ := ms_arr r1
    exact epochs_walk W A0 n0 c0 xs0 hb0 hn0 (by omega) ha0 (bss_nil r0) (toMs a1) X mn mc hm z2 hz2

/-- SessEpochs, for every input: the statement as it was given. -/
theorem sessEpochs_holds : Rows.SessEpochsSaid :=
  OpenClaim.holds_of_wide 6 Try.f6 rfl rfl rfl rfl rfl rfl rfl ⟨rfl, rfl, rfl, rfl, rfl⟩ rfl rfl rfl rfl rfl (by kernel_rfl) Try.func6 (by kernel_rfl)
    (of_decide_eq_true (by kernel_rfl)) (by unfold Func.isWrapper; first | (rw [if_pos (by decide +kernel)]; kernel_rfl) | (rw [if_neg (by decide +kernel)]; exact ⟨rfl, rfl⟩))
    (fun os started H enc _ => sessEpochs_lifted os started H enc)
end Go.Proofs.Ytlmaelbalmjlbaa
