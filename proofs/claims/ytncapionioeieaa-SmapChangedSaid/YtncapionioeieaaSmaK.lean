/- Layer 13: the document's Split and Merge. Printed by wip/tools/gensmak.py. -/
import Derived.Test.YtncapionioeieaaSmaJ
import Derived.StillTail
import Derived.StillTailTactics
set_option linter.all false
namespace Go.Proofs.Ytncapionioeieaa
open Go.RowKit
namespace Sma

/-- What the document's functions answer: a map that reads so, and an error's number. -/
def RAns (w w' : World) (e : Ending) (r : Mp × Int) : Prop := ∃ A k c, e = .returned (.tuple #[mv r.1 A k c, .int .i64 r.2]) ∧ Mr w' r.1 A k c ∧ Below w.heap.size w w'
theorem rans_zero {w w' : World} {er : Int} {r : Mp × Int} (hr : r = (zM, er)) (hb : Below w.heap.size w w') : RAns w w' (.returned (.tuple #[.agg #[.int .i64 0, .int .i64 0, .slice none 0 0], .int .i64 er])) r := by
  subst hr
  exact ⟨none, 0, 0, rfl, (got_zero _ 0).mr, hb⟩
theorem Mr.grown {w w' : World} {row : Option Nat} {m : Mp} {A : Option Addr} {k c : Nat} (h : Mr w m A k c) (hg : w.grownBy w' row) (hne : ∀ a, A = some a → some a.block ≠ row) : Mr w' m A k c := ⟨h.v, h.n, h.ps.grown hg hne, h.le, h.cap, h.nil⟩
theorem rans_set {w w3 : World} {q : Nat} {A : Option Addr} {k c : Nat} {r : Mp × Int} (h : Mr w3 r.1 A k c) (hne : ∀ a, A = some a → a.block ≠ q) (hq0 : w.heap.size ≤ q) (hB : Below w.heap.size w w3) (u0 u1 u2 : Value) : RAns w (((w3.setCell ⟨q, 0, none⟩ u0).setCell ⟨q, 1, none⟩ u1).setCell ⟨q, 2, none⟩ u2) (.returned (.tuple #[mv r.1 A k c, .int .i64 r.2])) r :=
  ⟨A, k, c, rfl, h.grown (grown3 w3 q u0 u1 u2) (fun a e e2 => by injection e2 with e2; exact hne a e e2), below_set3 hB hq0 (Nat.le_refl _) _ _ _⟩
theorem below_drew0 (w : World) : Below w.heap.size w w.drew := ⟨rfl, rfl, rfl, Nat.le_refl _, fun _ _ => rfl⟩
theorem own_from {w : World} {base : Nat} {e : TypeId} {size : Nat} {v : Value} {n : Nat} {xs : List Value} (h : w.ownsRow base e size v n xs) : ∀ k, v.ownBlock = some k → base ≤ k := fun k hk => (h.lt k hk).1
theorem own_blk {w : World} {base : Nat} {e : TypeId} {size : Nat} {A : Option Addr} {n c : Nat} {xs : List Value} (h : w.ownsRow base e size (.slice A n c) n xs) : ∀ a, A = some a → base ≤ a.block := fun a ha => by
  subst ha
  rcases h.2 with ⟨e1, _⟩ | ⟨g, cap, cur, e1, hg, _⟩
  · cases e1
  · injection e1 with e1
    injection e1 with e1
    subst e1
    exact hg
theorem cells3_keep {w w' : World} {b : Nat} {x y z : Value} (h : w.cell? ⟨b, 0, none⟩ = some x ∧ w.cell? ⟨b, 1, none⟩ = some y ∧ w.cell? ⟨b, 2, none⟩ = some z) (hb : Below w.heap.size w w') : w'.cell? ⟨b, 0, none⟩ = some x ∧ w'.cell? ⟨b, 1, none⟩ = some y ∧ w'.cell? ⟨b, 2, none⟩ = some z :=
  ⟨(hb.cell (cell_lt h.1)).trans h.1, (hb.cell (cell_lt h.2.1)).trans h.2.1, (hb.cell (cell_lt h.2.2)).trans h.2.2⟩
section
variable (w : World)
set_option maxRecDepth 100000 in
set_option maxHeartbeats 2000000 in
theorem rsplit_ (m : Mp) (A : Option Addr) (k c : Nat) (h : Mr w m A k c) (a : Int) (ha : I64 a) : Calls Try.prog 22 #[mv m A k c, .int .i64 a] w fun e w' => RAns w w' e (splitA m a) := by
  have hn := h.n
  have ha0 := ha
  unfold I64 at hn ha
  have hbx : Below w.heap.size w ((w.alloc (rmo m A k c)).alloc rzo) := ((Below.refl w.heap.size w).alloc (Nat.le_refl _) _).alloc (by simp) _
  have hbk := (Blk.new w 25 #[.int .i64 m.v, .int .i64 m.n, .slice A k c] rfl).alloc rzo
  have hq := Blk.new (w.alloc (rmo m A k c)) 25 #[.int .i64 0, .int .i64 0, .slice none 0 0] (g := w.heap.size + 1) (by simp)
  have hm1 := h.below hbx
  have hsz : ((w.alloc (rmo m A k c)).alloc rzo).heap.size = w.heap.size + 2 := by simp
  simp only [mv]
  clear h
  cases hr : m.right with
  | false =>
    have HR := Lib.hid (split_bad (a := a) (.inl hr))
    go_enter Try.func22, Try.ntmps22
    go_wp2_with fail
    generalize ((w.alloc (rmo m A k c)).alloc rzo) = w1 at *
    refine (rright_ _ m A k c hm1).mono ?_
    rw [hr]
    rintro e w2 ⟨rfl, hb2⟩
    have hq2 := hq.keep hb2
    obtain ⟨x0, x1, x2, f0, f1, f2⟩ := cells3 hq2
    go_wp2
    refine bodyPost_ret (results_r rfl rfl (blk_set3 hq2 (.int .i64 0) (.int .i64 0) (.slice none 0 0))) rfl ?_
    exact rans_zero HR.out (below_set3 (below_step hbx hb2 (by omega)) (by omega) (Nat.le_refl _) _ _ _)
  | true =>
    by_cases h1 : a < 1 ∨ m.n ≤ a
    · have HR := Lib.hid (split_bad (m := m) (.inr h1))
      by_cases g1 : a < 1
      · go_enter Try.func22, Try.ntmps22
        go_wp2_with fail
        generalize ((w.alloc (rmo m A k c)).alloc rzo) = w1 at *
        refine (rright_ _ m A k c hm1).mono ?_
        rw [hr]
        rintro e w2 ⟨rfl, hb2⟩
        have hq2 := hq.keep hb2
        obtain ⟨x0, x1, x2, f0, f1, f2⟩ := cells3 hq2
        clear h1
        go_wp2
        refine bodyPost_ret (results_r rfl rfl (blk_set3 hq2 (.int .i64 0) (.int .i64 0) (.slice none 0 0))) rfl ?_
        exact rans_zero HR.out (below_set3 (below_step hbx hb2 (by omega)) (by omega) (Nat.le_refl _) _ _ _)
      · have g2 : m.n ≤ a := by omega
        go_enter Try.func22, Try.ntmps22
        go_wp2_with fail
        generalize ((w.alloc (rmo m A k c)).alloc rzo) = w1 at *
        refine (rright_ _ m A k c hm1).mono ?_
        rw [hr]
        rintro e w2 ⟨rfl, hb2⟩
        have hq2 := hq.keep hb2
        obtain ⟨x0, x1, x2, f0, f1, f2⟩ := cells3 hq2
        obtain ⟨d0, d1, d2, -, -, -⟩ := cells3 (hbk.keep hb2)
        clear h1
        go_wp2
        refine bodyPost_ret (results_r rfl rfl (blk_set3 hq2 (.int .i64 0) (.int .i64 0) (.slice none 0 0))) rfl ?_
        exact rans_zero HR.out (below_set3 (below_step hbx hb2 (by omega)) (by omega) (Nat.le_refl _) _ _ _)
    · have h1a : ¬ a < 1 := fun q => h1 (.inl q)
      have h1b : ¬ m.n ≤ a := fun q => h1 (.inr q)
      clear h1
      obtain ⟨pre, p, post, hat⟩ := at_of hr (a := a) (by omega) (by omega)
      obtain ⟨b, o, rfl, hik, fp, -, -, -⟩ := at_cells hm1 hat.get
      have HS := Lib.hid (split_at hr hat (by omega))
      have hlen := hm1.len
      have hrr := right_is hr
      have hk16 : k ≤ 16 := by omega
      have hkc : k ≤ c := hm1.le
      have Hlen := Lib.hid hlen
      have hv1 : 1 ≤ m.v := hrr.1.1
      have hv2 : m.v ≤ 1099511627776 := hrr.1.2
      obtain ⟨ff, fe, fn⟩ := fp.all
      obtain ⟨i, hi⟩ : ∃ i, pre.length = i := ⟨_, rfl⟩
      have Hf := Lib.hid (show findA m a = ((i : Int), 0) by rw [find_at hr hat, hi])
      have Hget := Lib.hid (show m.ps[i]? = some p by rw [← hi]; exact hat.get)
      have Htake := Lib.hid (show m.ps.take i = pre by rw [← hi]; exact hat.take)
      have Hdrop := Lib.hid (show m.ps.drop (i + 1) = post by rw [← hi]; exact hat.drop)
      rw [hi] at hik
      clear hlen hrr hat hi
      have hi0 : (0 : Int) ≤ (i : Int) := by omega
      have hiK : (i : Int) < (k : Int) := by omega
      have hiC : (i : Int) ≤ (c : Int) := by omega
      go_enter Try.func22, Try.ntmps22
      go_wp2_with fail
      generalize ((w.alloc (rmo m (some ⟨b, o, none⟩) k c)).alloc rzo) = w1 at *
      refine (rright_ _ m _ k c hm1).mono ?_
      rw [hr]
      rintro e w2 ⟨rfl, hb2⟩
      have hq2 := hq.keep hb2
      have hbk2 := hbk.keep hb2
      have hm2 := hm1.below hb2
      have hB2 := below_step hbx hb2 (by omega)
      have hs2 := hb2.size
      clear hq hbk hm1 hb2
      obtain ⟨d0, d1, d2, -, -, -⟩ := cells3 hbk2
      go_wp2_with fail
      refine (rfind_ _ m _ k c hm2 a ha0).mono ?_
      rw [Hf.out]
      rintro e w3 ⟨rfl, hb3⟩
      simp only
      have hq3 := hq2.keep hb3
      have hbk3 := hbk2.keep hb3
      have hm3 := hm2.below hb3
      have hB3 := below_step hB2 hb3 (by omega)
      have hs3 := hb3.size
      clear d0 d1 d2 hq2 hbk2 hm2 hb3 hB2
      obtain ⟨d0, d1, d2, -, -, -⟩ := cells3 hbk3
      obtain ⟨b', o', e', -, -, p0, p1, p2⟩ := at_cells hm3 Hget.out
      injection e' with e'
      injection e' with e1 e2
      subst e1 e2
      have hpc := Blk.new w3 58 #[.int .i64 p.fr, .int .i64 p.en, .int .i64 p.nd] rfl
      have hab := (Below.refl w3.heap.size w3).alloc (Nat.le_refl _) (po p)
      have hq4 := hq3.keep hab
      have hbk4 := hbk3.keep hab
      have hm4 := hm3.below hab
      have hB4 := below_step hB3 hab (by omega)
      have hs4 : (w3.alloc (po p)).heap.size = w3.heap.size + 1 := by simp
      by_cases hfr : p.fr = a
      · have t0 : (p.fr == a) = true := by simpa using hfr
        have HR := Lib.hid (show splitA m a = (zM, 10) by rw [HS.out, if_pos hfr])
        obtain ⟨x0, x1, x2, f0, f1, f2⟩ := cells3 hq4
        clear hfr
        go_wp2
        refine bodyPost_ret (results_r rfl rfl (blk_set3 hq4 (.int .i64 0) (.int .i64 0) (.slice none 0 0))) rfl ?_
        exact rans_zero HR.out (below_set3 hB4 (by omega) (Nat.le_refl _) _ _ _)
      · have t0 : (p.fr == a) = false := by simpa using hfr
        by_cases hk : 16 ≤ k
        · have HR := Lib.hid (show splitA m a = (zM, 6) by rw [HS.out, if_neg hfr, if_pos (by have := Hlen.out; omega)])
          have t1 : (16 : Int) ≤ (k : Int) := by omega
          obtain ⟨x0, x1, x2, f0, f1, f2⟩ := cells3 hq4
          obtain ⟨y0, y1, y2, -, -, -⟩ := cells3 hbk4
          clear hfr hk
          go_wp2
          refine bodyPost_ret (results_r rfl rfl (blk_set3 hq4 (.int .i64 0) (.int .i64 0) (.slice none 0 0))) rfl ?_
          exact rans_zero HR.out (below_set3 hB4 (by omega) (Nat.le_refl _) _ _ _)
        · have t1 : ¬ (16 : Int) ≤ (k : Int) := by omega
          have HR := Lib.hid (show splitA m a = nextA m (m.ps.take i ++ ([⟨p.fr, a, p.nd⟩, ⟨a, p.en, p.nd⟩] ++ m.ps.drop (i + 1))) by rw [HS.out, if_neg hfr, if_neg (by have := Hlen.out; omega), Htake.out, Hdrop.out])
          obtain ⟨y0, y1, y2, -, -, -⟩ := cells3 hbk4
          obtain ⟨c0, c1, c2, -, -, -⟩ := cells3 hpc
          clear hfr hk
          go_wp2_with fail
          clear d0 d1 d2 p0 p1 p2 hq3 hbk3 hm3 hB3 hab
          generalize (w3.alloc (po p)) = wq at *
          obtain ⟨i0, hi0, hz0, hz1, hz2⟩ := pc_info
          have Hz := Lib.hid hz2
          clear hz2
          have Hfst := hm4.ps.take (i := i) (by omega)
          have hD0 : Below wq.heap.size wq wq.drew := below_drew0 wq
          have hDA : Below wq.heap.size wq (wq.drew.alloc (.cells #[.int .i64 p.fr, .int .i64 a, .int .i64 p.nd, .int .i64 a, .int .i64 p.en, .int .i64 p.nd] 58)) := hD0.alloc (Nat.le_refl _) _
          have z1 : 0 + i ≤ maxLen := by unfold maxLen; omega
          have z2 : (0 + i) * 24 ≤ 140737488355328 := by omega
          have z3 : i + 2 ≤ maxLen := by unfold maxLen; omega
          have z4 : (i + 2) * 24 ≤ 140737488355328 := by omega
          have := World.new_ne wq _ y2
          have := World.new_ne wq _ c0
          have := World.new_ne wq _ c1
          have := World.new_ne wq _ c2
          go_region_held3 (fun w' => w'.cell? ⟨w.heap.size, 2, none⟩ = some (.slice (some ⟨b, o, none⟩) k c) ∧ w'.cell? ⟨w3.heap.size, 0, none⟩ = some (.int .i64 p.fr) ∧ w'.cell? ⟨w3.heap.size, 1, none⟩ = some (.int .i64 p.en) ∧ w'.cell? ⟨w3.heap.size, 2, none⟩ = some (.int .i64 p.nd))
            (first | go_keep | exact ⟨y2, c0, c1, c2⟩ | exact ⟨y2a, c0a, c1a, c2a⟩ | exact ⟨y2b, c0b, c1b, c2b⟩ | exact ⟨y2c, c0c, c1c, c2c⟩ | exact ⟨y2d, c0d, c1d, c2d⟩)
            (first
              | (refine step_app _ rfl (.const (.slice none 0 0)) (.tmp 48) _ rfl wq.heap.size 58 i0 _ 3 24 Try.underlying23 hi0 hz0 hz1 Hz.out rfl (Nat.zero_lt_succ 2) (.slice none 0 0) 0 [] rfl (own_nil _ _ _ _) (some ⟨b, o, none⟩) i c (pvs (m.ps.take i)) rfl (fun h => by cases h) (show Rd wq.drew (some ⟨b, o, none⟩) 3 i (pvs (m.ps.take i)) from Hfst.rd) (pvs_one _) z1 z2 (Nat.le_refl _) ?_
                 intro v1 w5 hown1 hg1 hat1
                 simp only [Nat.zero_add, List.nil_append] at hown1
                 obtain ⟨A1, c1', rfl, hc1, hcm1, hA1⟩ := own_form hown1
                 have hb1 : Below wq.heap.size wq w5 := hD0.grown hg1 (Nat.le_refl _) (fun k hk => by cases hk)
                 have y2a := (hb1.cell (cell_lt y2)).trans y2
                 have c0a := (hb1.cell (cell_lt c0)).trans c0
                 have c1a := (hb1.cell (cell_lt c1)).trans c1
                 have c2a := (hb1.cell (cell_lt c2)).trans c2
                 have hrd := (ps_two (p := ⟨p.fr, a, p.nd⟩) (q := ⟨a, p.en, p.nd⟩) ⟨fp.fr, ha0, fp.nd⟩ ⟨ha0, fp.en, fp.nd⟩ (g := w5.heap.size) (w := w5) rfl).rd
                 have ho1 := own_keep hown1 (show Below w5.heap.size w5 (w5.alloc (.cells #[.int .i64 p.fr, .int .i64 a, .int .i64 p.nd, .int .i64 a, .int .i64 p.en, .int .i64 p.nd] 58)) from (Below.refl _ _).alloc (Nat.le_refl _) _)
                 have hb1' : Below wq.heap.size wq (w5.alloc (.cells #[.int .i64 p.fr, .int .i64 a, .int .i64 p.nd, .int .i64 a, .int .i64 p.en, .int .i64 p.nd] 58)) := hb1.alloc hb1.size _
                 have y2b := (hb1'.cell (cell_lt y2)).trans y2
                 have c0b := (hb1'.cell (cell_lt c0)).trans c0
                 have c1b := (hb1'.cell (cell_lt c1)).trans c1
                 have c2b := (hb1'.cell (cell_lt c2)).trans c2
                 )
              | (refine step_app _ rfl (.const (.slice none 0 0)) (.tmp 48) _ rfl wq.heap.size 58 i0 _ 3 24 Try.underlying23 hi0 hz0 hz1 Hz.out rfl (Nat.zero_lt_succ 2) (.slice none 0 0) 0 [] rfl (own_nil _ _ _ _) (some ⟨b, o, none⟩) i c (pvs (m.ps.take i)) rfl (fun h => by cases h) (show Rd (wq.drew.alloc (.cells #[.int .i64 p.fr, .int .i64 a, .int .i64 p.nd, .int .i64 a, .int .i64 p.en, .int .i64 p.nd] 58)) (some ⟨b, o, none⟩) 3 i (pvs (m.ps.take i)) from (show Rd wq.drew (some ⟨b, o, none⟩) 3 i (pvs (m.ps.take i)) from Hfst.rd).alloc _) (pvs_one _) z1 z2 hDA.size ?_
                 intro v1 w5 hown1 hg1 hat1
                 simp only [Nat.zero_add, List.nil_append] at hown1
                 obtain ⟨A1, c1', rfl, hc1, hcm1, hA1⟩ := own_form hown1
                 have hb1' : Below wq.heap.size wq w5 := hDA.grown hg1 hDA.size (fun k hk => by cases hk)
                 have y2c := (hb1'.cell (cell_lt y2)).trans y2
                 have c0c := (hb1'.cell (cell_lt c0)).trans c0
                 have c1c := (hb1'.cell (cell_lt c1)).trans c1
                 have c2c := (hb1'.cell (cell_lt c2)).trans c2
                 have hrd : Rd w5 (some ⟨w3.heap.size + 1, 0, none⟩) 3 2 (pvs [⟨p.fr, a, p.nd⟩, ⟨a, p.en, p.nd⟩]) := Rd.grown (ps_two (p := ⟨p.fr, a, p.nd⟩) (q := ⟨a, p.en, p.nd⟩) ⟨fp.fr, ha0, fp.nd⟩ ⟨ha0, fp.en, fp.nd⟩ (g := w3.heap.size + 1) (w := wq.drew) hs4.symm).rd hg1 (fun a _ => by simp [Value.ownBlock])
                 have ho1 := hown1)
              | (refine step_app _ rfl (.tmp 49) (.tmp 62) _ rfl wq.heap.size 58 i0 _ 3 24 Try.underlying23 hi0 hz0 hz1 Hz.out rfl (Nat.zero_lt_succ 2) (.slice A1 i c1') i _ rfl ho1 _ 2 2 (pvs [⟨p.fr, a, p.nd⟩, ⟨a, p.en, p.nd⟩]) rfl (fun h => by cases h) hrd (pvs_one _) z3 z4 hb1'.size ?_
                 intro v3 w6 hown3 hg3 hat3
                 have hb6 : Below wq.heap.size wq w6 := hb1'.grown hg3 hb1'.size (own_from ho1)
                 have y2d := (hb6.cell (cell_lt y2)).trans y2
                 have c0d := (hb6.cell (cell_lt c0)).trans c0
                 have c1d := (hb6.cell (cell_lt c1)).trans c1
                 have c2d := (hb6.cell (cell_lt c2)).trans c2
                 ))
          all_goals
            have hfnew : ∀ x ∈ m.ps.take i ++ [⟨p.fr, a, p.nd⟩, ⟨a, p.en, p.nd⟩], Fit x := fun x hx => by
              rcases List.mem_append.1 hx with hx | hx
              · exact fit_take hm4.ps.fit i x hx
              · simp only [List.mem_cons, List.not_mem_nil, or_false] at hx
                rcases hx with rfl | rfl
                · exact ⟨fp.fr, ha0, fp.nd⟩
                · exact ⟨ha0, fp.en, fp.nd⟩
            have ho3 : Po w6 wq.heap.size v3 (i + 2) (m.ps.take i ++ [⟨p.fr, a, p.nd⟩, ⟨a, p.en, p.nd⟩]) := po_of hown3 (pvs_app _ _).symm
            obtain ⟨A3, c3, rfl, hc3, hcm3, hA3⟩ := own_form ho3
            have hq6 := hq4.keep hb6
            have hbk6 := hbk4.keep hb6
            have hm6 := hm4.below hb6
            have hB6 := below_step hB4 hb6 (by omega)
            have hs6 := hb6.size
            obtain ⟨u0, u1, u2, -, -, -⟩ := cells3 hbk6
            clear hown3 hg3 hat3
            obtain ⟨s, Hs⟩ : ∃ s, Hid (s = i + 1) := ⟨_, Lib.hid rfl⟩
            have hsk : s ≤ k := by have := Hs.out; omega
            have hs0' : (0 : Int) ≤ (s : Int) := by omega
            have hsk' : (s : Int) ≤ (k : Int) := by omega
            have hws : IntKind.i64.wrap ((i : Int) + 1) = (s : Int) := by have := Hs.out; rw [IntKind.wrap_i64]; omega
            have Hlst := hm6.ps.drop (c := c) hsk hkc
            have HL := Lib.hid (show m.ps.drop s = m.ps.drop (i + 1) by rw [Hs.out])
            have z5 : (i + 2) + (k - s) ≤ maxLen := by unfold maxLen; omega
            have z6 : ((i + 2) + (k - s)) * 24 ≤ 140737488355328 := by omega
            have hfa : ∀ x ∈ (m.ps.take i ++ [⟨p.fr, a, p.nd⟩, ⟨a, p.en, p.nd⟩]) ++ m.ps.drop s, Fit x := fun x hx => by
              rcases List.mem_append.1 hx with hx | hx
              · exact hfnew x hx
              · exact fit_drop hm4.ps.fit s x hx
            have hqz : w.heap.size ≤ w.heap.size := Nat.le_refl _
            have hww : w.heap.size ≤ w.heap.size := Nat.le_refl _
            have hMF := hm4.ps.fit
            obtain ⟨r, hr6⟩ : ∃ r, r = splitA m a := ⟨_, rfl⟩
            have Hnx := Lib.hid (show nextA m ((m.ps.take i ++ [⟨p.fr, a, p.nd⟩, ⟨a, p.en, p.nd⟩]) ++ m.ps.drop s) = r by rw [hr6, HR.out, HL.out, List.append_assoc])
            have Hr6 := Lib.hid hr6
            clear hr6
            have hqq : w.heap.size + 1 < wq.heap.size := by omega
            by_cases hcs : c = s
            · rw [if_pos hcs] at Hlst
              subst hcs
              have hk0 : k - c = 0 := by omega
              rw [hk0] at Hlst z5 z6
              clear hk0
              go_wp2_with fail
              go_region_held3 (fun w' => w'.cell? ⟨w.heap.size, 0, none⟩ = some (.int .i64 m.v) ∧ w'.cell? ⟨w.heap.size, 1, none⟩ = some (.int .i64 m.n) ∧ w'.cell? ⟨w.heap.size, 2, none⟩ = some (.slice (some ⟨b, o, none⟩) k c))
                (first | go_keep | exact ⟨u0, u1, u2⟩ | exact ⟨u0e, u1e, u2e⟩ | exact ⟨u0f, u1f, u2f⟩)
                (first
                  | (refine step_app _ rfl (.tmp 65) (.tmp 70) _ rfl wq.heap.size 58 i0 _ 3 24 Try.underlying23 hi0 hz0 hz1 Hz.out rfl (Nat.zero_lt_succ 2) (.slice A3 (i + 2) c3) (i + 2) _ rfl (show w6.drew.ownsRow wq.heap.size _ _ _ _ _ from ho3) (some ⟨b, o, none⟩) 0 0 (pvs (m.ps.drop c)) rfl (fun h => by cases h) (show Rd w6.drew _ _ _ _ from Hlst.rd) (pvs_one _) z5 z6 hs6 ?_
                     intro v7 w8 hown7 hg7 hat7
                     rw [← pvs_app] at hown7
                     have hb8 : Below wq.heap.size wq w8 := (below_drewN hb6 1).grown hg7 hs6 (own_from ho3)
                     have hbk8 := hbk4.keep hb8
                     have hq8 := hq4.keep hb8
                     have hm8 := hm4.below hb8
                     have hB8 := below_step hB4 hb8 hqz
                     obtain ⟨u0e, u1e, u2e, -, -, -⟩ := cells3 hbk8
                     obtain ⟨A7, c7, rfl, hc7, hcm7, hA7⟩ := own_form hown7
                     have hps7 := po_ps hown7 hfa)
                  | (go_at_call 39
                     refine (rnext_ _ m _ k c hm8 hv1 hv2 A7 _ c7 _ hps7 hc7 hcm7 (fun h => (hA7 h).2)).mono ?_
                     rw [Hnx.out]
                     rintro e w9 ⟨A9, k9, c9, rfl, g9, hA9, hb9⟩
                     have hq9 := hq8.keep hb9
                     have hbk9 := hbk8.keep hb9
                     have hB9 := below_step hB8 hb9 hww
                     obtain ⟨x0, x1, x2, f0, f1, f2⟩ := cells3 hq9
                     have hne9 : ∀ a, A9 = some a → a.block ≠ w.heap.size + 1 := fun a e => by
                       rcases hA9 with h9 | h9
                       · rw [h9] at e; cases e
                       · have := own_blk hown7 a (h9.symm.trans e)
                         omega
                     obtain ⟨u0f, u1f, u2f, -, -, -⟩ := cells3 hbk9))
              have hqz9 := blk_set3 hq9 (.int .i64 r.1.v) (.int .i64 r.1.n) (.slice A9 k9 c9)
              have hAns : RAns w (((w9.setCell ⟨w.heap.size + 1, 0, none⟩ (.int .i64 r.1.v)).setCell ⟨w.heap.size + 1, 1, none⟩ (.int .i64 r.1.n)).setCell ⟨w.heap.size + 1, 2, none⟩ (.slice A9 k9 c9)) (.returned (.tuple #[mv r.1 A9 k9 c9, .int .i64 r.2])) r := rans_set (q := w.heap.size + 1) g9 hne9 (by omega) hB9 _ _ _
              generalize (((w9.setCell ⟨w.heap.size + 1, 0, none⟩ (.int .i64 r.1.v)).setCell ⟨w.heap.size + 1, 1, none⟩ (.int .i64 r.1.n)).setCell ⟨w.heap.size + 1, 2, none⟩ (.slice A9 k9 c9)) = wz at *
              rename (∀ (a : Act) (w : World), Code.wp _ _ _ _ _ → _) => a9
              refine a9 _ _ ?_
              clear a9
              go_step
              refine bodyPost_ret (results_r rfl rfl hqz9) rfl ?_
              rw [← Hr6.out]
              exact hAns
            · rw [if_neg hcs] at Hlst
              replace Hlst : Ps w6 (some ⟨b, o + s * 3, none⟩) (k - s) (m.ps.drop s) := by simpa only [Option.map_some, add_plain] using Hlst
              go_wp2_with fail
              go_region_held3 (fun w' => w'.cell? ⟨w.heap.size, 0, none⟩ = some (.int .i64 m.v) ∧ w'.cell? ⟨w.heap.size, 1, none⟩ = some (.int .i64 m.n) ∧ w'.cell? ⟨w.heap.size, 2, none⟩ = some (.slice (some ⟨b, o, none⟩) k c))
                (first | go_keep | exact ⟨u0, u1, u2⟩ | exact ⟨u0e, u1e, u2e⟩ | exact ⟨u0f, u1f, u2f⟩)
                (first
                  | (refine step_app _ rfl (.tmp 65) (.tmp 70) _ rfl wq.heap.size 58 i0 _ 3 24 Try.underlying23 hi0 hz0 hz1 Hz.out rfl (Nat.zero_lt_succ 2) (.slice A3 (i + 2) c3) (i + 2) _ rfl (show w6.drew.ownsRow wq.heap.size _ _ _ _ _ from ho3) (some ⟨b, o + s * 3, none⟩) (k - s) (c - s) (pvs (m.ps.drop s)) rfl (fun h => by cases h) (show Rd w6.drew _ _ _ _ from Hlst.rd) (pvs_one _) z5 z6 hs6 ?_
                     intro v7 w8 hown7 hg7 hat7
                     rw [← pvs_app] at hown7
                     have hb8 : Below wq.heap.size wq w8 := (below_drewN hb6 1).grown hg7 hs6 (own_from ho3)
                     have hbk8 := hbk4.keep hb8
                     have hq8 := hq4.keep hb8
                     have hm8 := hm4.below hb8
                     have hB8 := below_step hB4 hb8 hqz
                     obtain ⟨u0e, u1e, u2e, -, -, -⟩ := cells3 hbk8
                     obtain ⟨A7, c7, rfl, hc7, hcm7, hA7⟩ := own_form hown7
                     have hps7 := po_ps hown7 hfa)
                  | (go_at_call 39
                     refine (rnext_ _ m _ k c hm8 hv1 hv2 A7 _ c7 _ hps7 hc7 hcm7 (fun h => (hA7 h).2)).mono ?_
                     rw [Hnx.out]
                     rintro e w9 ⟨A9, k9, c9, rfl, g9, hA9, hb9⟩
                     have hq9 := hq8.keep hb9
                     have hbk9 := hbk8.keep hb9
                     have hB9 := below_step hB8 hb9 hww
                     obtain ⟨x0, x1, x2, f0, f1, f2⟩ := cells3 hq9
                     have hne9 : ∀ a, A9 = some a → a.block ≠ w.heap.size + 1 := fun a e => by
                       rcases hA9 with h9 | h9
                       · rw [h9] at e; cases e
                       · have := own_blk hown7 a (h9.symm.trans e)
                         omega
                     obtain ⟨u0f, u1f, u2f, -, -, -⟩ := cells3 hbk9))
              have hqz9 := blk_set3 hq9 (.int .i64 r.1.v) (.int .i64 r.1.n) (.slice A9 k9 c9)
              have hAns : RAns w (((w9.setCell ⟨w.heap.size + 1, 0, none⟩ (.int .i64 r.1.v)).setCell ⟨w.heap.size + 1, 1, none⟩ (.int .i64 r.1.n)).setCell ⟨w.heap.size + 1, 2, none⟩ (.slice A9 k9 c9)) (.returned (.tuple #[mv r.1 A9 k9 c9, .int .i64 r.2])) r := rans_set (q := w.heap.size + 1) g9 hne9 (by omega) hB9 _ _ _
              generalize (((w9.setCell ⟨w.heap.size + 1, 0, none⟩ (.int .i64 r.1.v)).setCell ⟨w.heap.size + 1, 1, none⟩ (.int .i64 r.1.n)).setCell ⟨w.heap.size + 1, 2, none⟩ (.slice A9 k9 c9)) = wz at *
              rename (∀ (a : Act) (w : World), Code.wp _ _ _ _ _ → _) => a9
              refine a9 _ _ ?_
              clear a9
              go_step
              refine bodyPost_ret (results_r rfl rfl hqz9) rfl ?_
              rw [← Hr6.out]
              exact hAns
end
end Sma
end Go.Proofs.Ytncapionioeieaa
