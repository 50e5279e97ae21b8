/- Layer 13: the map behind a map: smap's next. -/
import Derived.Test.YtncapionioeieaaSmaD
set_option linter.all false
namespace Go.Proofs.Ytncapionioeieaa
open Go.RowKit
namespace Sma

abbrev mo (m : Mp) (A : Option Addr) (k c : Nat) : Obj := .cells #[.int .i64 m.v, .int .i64 m.n, .slice A k c] 26
abbrev zo : Obj := .cells #[.int .i64 0, .int .i64 0, .slice none 0 0] 26
theorem fit_take {l : List Pc} (h : ∀ p ∈ l, Fit p) (i : Nat) : ∀ p ∈ l.take i, Fit p := fun p hp => h p (List.mem_of_mem_take hp)
theorem fit_drop {l : List Pc} (h : ∀ p ∈ l, Fit p) (i : Nat) : ∀ p ∈ l.drop i, Fit p := fun p hp => h p (List.mem_of_mem_drop hp)
theorem Ps.take {w : World} {A : Option Addr} {n : Nat} {l : List Pc} (h : Ps w A n l) {i : Nat} (hi : i ≤ n) : Ps w A i (l.take i) := ⟨by have := h.rd.take hi; rwa [pvs_take] at this, fit_take h.fit i⟩
theorem Ps.drop {w : World} {A : Option Addr} {n c : Nat} {l : List Pc} (h : Ps w A n l) {i : Nat} (hi : i ≤ n) (hc : n ≤ c) : Ps w (if c = i then A else A.map (·.add (i * 3))) (n - i) (l.drop i) := ⟨by have := h.rd.drop hi hc; rwa [pvs_drop] at this, fit_drop h.fit i⟩
theorem pss3 {w : World} {A1 A2 A3 : Option Addr} {n1 n2 n3 c1 c2 c3 g : Nat} {l1 l2 l3 : List Pc} (h1 : Ps w A1 n1 l1) (h2 : Ps w A2 n2 l2) (h3 : Ps w A3 n3 l3) (k1 : n1 ≤ c1) (k2 : n2 ≤ c2) (k3 : n3 ≤ c3) (hg : g = w.heap.size) :
    Pss (w.alloc (.cells #[.slice A1 n1 c1, .slice A2 n2 c2, .slice A3 n3 c3] 23)).drew (some ⟨g, 0, none⟩) 3 [l1, l2, l3] := by
  have hb := Blk.new w 23 #[.slice A1 n1 c1, .slice A2 n2 c2, .slice A3 n3 c3] hg
  refine ⟨rfl, fun i hi => ?_⟩
  match i, hi with
  | 0, _ => exact ⟨g, 0, A1, n1, c1, rfl, hb.cell (j := 0) rfl, k1, (h1.alloc _).drew⟩
  | 1, _ => exact ⟨g, 0, A2, n2, c2, rfl, hb.cell (j := 1) rfl, k2, (h2.alloc _).drew⟩
  | 2, _ => exact ⟨g, 0, A3, n3, c3, rfl, hb.cell (j := 2) rfl, k3, (h3.alloc _).drew⟩
theorem next_end {w w1 w3 : World} {m : Mp} {lo : List Pc} {i s n g : Nat} {A3 : Option Addr} {c3 q : Nat} (hfit : ∀ p ∈ m.ps, Fit p) (hlo : ∀ p ∈ lo, Fit p) (HR : nextA m (m.ps.take i ++ (lo ++ m.ps.drop s)) = (⟨m.v + 1, m.n, m.ps.take i ++ (lo ++ m.ps.drop s)⟩, 0)) (hsz : w.heap.size ≤ w1.heap.size)
    (hown : Po w3 g (.slice A3 n c3) n (m.ps.take i ++ (lo ++ m.ps.drop s))) (hc : n ≤ c3) (hcm : c3 ≤ maxLen) (hB : Below w.heap.size w w3) (hv1 : 1 ≤ m.v) (hv2 : m.v < 1099511627776) (hn : -9223372036854775808 ≤ m.n ∧ m.n ≤ 9223372036854775807) (hg : w.heap.size ≤ g) (hq : w.heap.size ≤ q) (hqg : q < g) {u0 u1 u2 : Value} :
    Ans w (((w3.setCell ⟨q, 0, none⟩ u0).setCell ⟨q, 1, none⟩ u1).setCell ⟨q, 2, none⟩ u2) (.returned (.tuple #[.agg #[.int .i64 (m.v + 1), .int .i64 m.n, .slice A3 n c3], .int .i64 0])) (nextA m (m.ps.take i ++ (lo ++ m.ps.drop s))) := by
  rw [HR]
  have hgr := grown3 w3 q u0 u1 u2
  have hlow : ∀ k, (Value.slice A3 n c3).ownBlock = some k → some k ≠ some q := fun k hk e => by
    injection e with e
    have := (hown.lt k hk).1
    omega
  have hown' : Po (((w3.setCell ⟨q, 0, none⟩ u0).setCell ⟨q, 1, none⟩ u1).setCell ⟨q, 2, none⟩ u2) g (.slice A3 n c3) n (m.ps.take i ++ (lo ++ m.ps.drop s)) := by
    refine ⟨hown.1, ?_⟩
    rcases hown.2 with h2 | ⟨g', cap, cur, e, hb, hh, r⟩
    · exact .inl h2
    · have hne : some g' ≠ some q := hlow g' (by rw [e]; rfl)
      exact .inr ⟨g', cap, cur, e, hb, (hgr.block g' (hown.lt g' (by rw [e]; rfl)).2 hne).trans hh, r⟩
  have hfa : ∀ p ∈ m.ps.take i ++ (lo ++ m.ps.drop s), Fit p := fun p hp => by
    rcases List.mem_append.1 hp with hp | hp
    · exact fit_take hfit i p hp
    · rcases List.mem_append.1 hp with hp | hp
      · exact hlo p hp
      · exact fit_drop hfit s p hp
  obtain ⟨A', c', e, _, _, hnil⟩ := own_form hown
  injection e with e1 e2 e3
  subst e1 e3
  unfold maxLen at hcm
  exact ⟨A3, n, c3, rfl, Got.mono ⟨hown', ⟨by unfold I64; simp only; omega, by unfold I64; exact hn, po_ps hown' hfa, hc, hcm, fun h => (hnil h).2⟩⟩ hg, below_set3 hB hq (Nat.le_refl _) _ _ _⟩
section
variable (w : World)
set_option maxRecDepth 100000 in
set_option maxHeartbeats 2000000 in
theorem next_ (m : Mp) (A : Option Addr) (k c : Nat) (h : Mr w m A k c) (hv1 : 1 ≤ m.v) (hv2 : m.v ≤ 1099511627776) (hk : k ≤ 16) (i t : Nat) (hit : i + t ≤ k) (ht : 1 ≤ t) (ht2 : t ≤ 2) (B : Option Addr) (j d : Nat) (lo : List Pc) (hB : Ps w B j lo) (hjd : j ≤ d) (hj : 1 ≤ j) (hj2 : j ≤ 2) :
    Calls Try.prog 38 #[mv m A k c, .int .i64 (i : Int), .int .i64 (t : Int), .slice B j d] w fun e w' => Ans w w' e (nextA m (m.ps.take i ++ (lo ++ m.ps.drop (i + t)))) := by
  have hn := h.n
  unfold I64 at hn
  have hkc := h.le
  have hcm := h.cap
  have hbx : Below w.heap.size w ((w.alloc (mo m A k c)).alloc zo) := ((Below.refl w.heap.size w).alloc (Nat.le_refl _) _).alloc (by simp) _
  have hbk := (Blk.new w 26 #[.int .i64 m.v, .int .i64 m.n, .slice A k c] rfl).alloc zo
  have hq := Blk.new (w.alloc (mo m A k c)) 26 #[.int .i64 0, .int .i64 0, .slice none 0 0] (g := w.heap.size + 1) (by simp)
  have hp := h.ps.below hbx
  have hB1 := hB.below hbx
  have hlen := h.ps.len
  have hfit : ∀ p ∈ m.ps, Fit p := h.ps.fit
  have hlo : lo.length = j := hB.len.symm
  have hsz : ((w.alloc (mo m A k c)).alloc zo).heap.size = w.heap.size + 2 := by simp
  obtain ⟨b, o, rfl, -⟩ := h.ps.at_ (k := 0) (by omega)
  simp only [mv]
  have d0 := hbk.cell (j := 0) (u := .int .i64 m.v) rfl
  have d1 := hbk.cell (j := 1) (u := .int .i64 m.n) rfl
  have d2 := hbk.cell (j := 2) (u := .slice (some ⟨b, o, none⟩) k c) rfl
  clear h hB
  by_cases hfar : m.v = 1099511627776
  · have he : (m.v == 1099511627776) = true := by simpa using hfar
    have HR := Lib.hid (next_far (m := m) (l := m.ps.take i ++ (lo ++ m.ps.drop (i + t))) (by omega))
    clear hfar hlen
    go_enter Try.func38, Try.ntmps38
    go_wp2_with fail
    generalize ((w.alloc (mo m (some ⟨b, o, none⟩) k c)).alloc zo) = w1 at *
    go_wp2
    refine bodyPost_ret (results_m rfl rfl hq) rfl ?_
    rw [HR.out]
    exact ⟨none, 0, 0, rfl, got_zero _ _, hbx⟩
  · have he : (m.v == 1099511627776) = false := by simpa using hfar
    have hv3 : m.v < 1099511627776 := by omega
    have HR := Lib.hid (next_ok (m := m) (l := m.ps.take i ++ (lo ++ m.ps.drop (i + t))) hv3)
    have hw : IntKind.i64.wrap (m.v + 1) = m.v + 1 := by rw [IntKind.wrap_i64]; omega
    have hw2 : IntKind.i64.wrap ((i : Int) + (t : Int)) = ((i + t : Nat) : Int) := by rw [IntKind.wrap_i64]; omega
    have hi0 : (0 : Int) ≤ (i : Int) := by omega
    have hic : (i : Int) ≤ (c : Int) := by omega
    have hs0 : (0 : Int) ≤ ((i + t : Nat) : Int) := by omega
    have hsk : ((i + t : Nat) : Int) ≤ (k : Int) := by omega
    have Hp1 := hp.take (i := i) (by omega)
    have Hp2 := hp.drop (i := i + t) (c := c) hit hkc
    have HL := Lib.hid (show lens [m.ps.take i, lo, m.ps.drop (i + t)] = i + (j + (k - (i + t))) by simp [lens, hlo, ← hlen]; omega)
    have Hlen := Lib.hid hlen
    have hik : i + 1 ≤ k := by omega
    clear hlen
    generalize hst : i + t = s at *
    have Hst := Lib.hid hst
    have hfar' := hfar
    clear hfar hst
    by_cases hcs : c = s
    · rw [if_pos hcs] at Hp2
      subst hcs
      have q1 : i ≤ c := by omega
      have hk0 : k - c = 0 := by omega
      rw [hk0] at Hp2 HL
      have q4 : lens [m.ps.take i, lo, m.ps.drop c] ≤ 1000000 := by rw [HL.out]; omega
      have q5 : 0 < lens [m.ps.take i, lo, m.ps.drop c] := by rw [HL.out]; omega
      go_enter Try.func38, Try.ntmps38
      go_wp2_with fail
      generalize ((w.alloc (mo m (some ⟨b, o, none⟩) k c)).alloc zo) = w1 at *
      go_region_held3 (fun w' => w'.cell? ⟨w.heap.size, 2, none⟩ = some (.slice (some ⟨b, o, none⟩) k c))
        (first | go_keep | exact d2 | exact (hbl.cell (cell_lt d2)).trans d2)
        (first
          | (go_at_call 45
             refine (concat_ _ _ 3 3 _ (pss3 Hp1 hB1 Hp2 q1 hjd (Nat.le_refl 0) hsz.symm) (by decide) q4 q5).mono ?_
             rintro e w3 ⟨v3, rfl, hown3, hb3⟩
             have hbl : Below w1.heap.size w1 w3 := below_step ((Below.refl _ _).alloc (Nat.le_refl _) _) (below_undrew hb3) (Nat.le_refl _)))
      have hbk3 := hbk.keep hbl
      have hq3 := hq.keep hbl
      have e0 := hbk3.cell (j := 0) (u := .int .i64 m.v) rfl
      have e1 := hbk3.cell (j := 1) (u := .int .i64 m.n) rfl
      have hB3 := below_step hbx hbl (Nat.le_refl _)
      rw [HL.out, show ([m.ps.take i, lo, m.ps.drop c] : List (List Pc)).flatten = m.ps.take i ++ (lo ++ m.ps.drop c) by simp] at hown3
      obtain ⟨A3, c3, rfl, hc3, hm3, -⟩ := own_form hown3
      have x0 := hq3.cell (j := 0) (u := .int .i64 0) rfl
      have x1 := hq3.cell (j := 1) (u := .int .i64 0) rfl
      have x2 := hq3.cell (j := 2) (u := .slice none 0 0) rfl
      have f0 := hq3.free 0
      have f1 := hq3.free 1
      have f2 := hq3.free 2
      clear d0 d1 d2 hbk hbk3
      go_wp2
      refine bodyPost_ret (results_m rfl rfl (blk_set3 hq3 (.int .i64 (m.v + 1)) (.int .i64 m.n) (.slice A3 (i + (j + 0)) c3))) rfl ?_
      exact next_end hfit hB1.fit HR.out hbx.size hown3 hc3 hm3 hB3 hv1 hv3 hn (by simp; omega) (by omega) (by simp; omega)
    · rw [if_neg hcs] at Hp2
      have q1 : i ≤ c := by omega
      have q3 : k - s ≤ c - s := by omega
      replace Hp2 : Ps ((w.alloc (mo m (some ⟨b, o, none⟩) k c)).alloc zo) (some ⟨b, o + s * 3, none⟩) (k - s) (m.ps.drop s) := by simpa only [Option.map_some, add_plain] using Hp2
      have q4 : lens [m.ps.take i, lo, m.ps.drop s] ≤ 1000000 := by rw [HL.out]; omega
      have q5 : 0 < lens [m.ps.take i, lo, m.ps.drop s] := by rw [HL.out]; omega
      go_enter Try.func38, Try.ntmps38
      go_wp2_with fail
      generalize ((w.alloc (mo m (some ⟨b, o, none⟩) k c)).alloc zo) = w1 at *
      go_region_held3 (fun w' => w'.cell? ⟨w.heap.size, 2, none⟩ = some (.slice (some ⟨b, o, none⟩) k c))
        (first | go_keep | exact d2 | exact (hbl.cell (cell_lt d2)).trans d2)
        (first
          | (go_at_call 45
             refine (concat_ _ _ 3 3 _ (pss3 Hp1 hB1 Hp2 q1 hjd q3 hsz.symm) (by decide) q4 q5).mono ?_
             rintro e w3 ⟨v3, rfl, hown3, hb3⟩
             have hbl : Below w1.heap.size w1 w3 := below_step ((Below.refl _ _).alloc (Nat.le_refl _) _) (below_undrew hb3) (Nat.le_refl _)))
      have hbk3 := hbk.keep hbl
      have hq3 := hq.keep hbl
      have e0 := hbk3.cell (j := 0) (u := .int .i64 m.v) rfl
      have e1 := hbk3.cell (j := 1) (u := .int .i64 m.n) rfl
      have hB3 := below_step hbx hbl (Nat.le_refl _)
      rw [HL.out, show ([m.ps.take i, lo, m.ps.drop s] : List (List Pc)).flatten = m.ps.take i ++ (lo ++ m.ps.drop s) by simp] at hown3
      obtain ⟨A3, c3, rfl, hc3, hm3, -⟩ := own_form hown3
      have x0 := hq3.cell (j := 0) (u := .int .i64 0) rfl
      have x1 := hq3.cell (j := 1) (u := .int .i64 0) rfl
      have x2 := hq3.cell (j := 2) (u := .slice none 0 0) rfl
      have f0 := hq3.free 0
      have f1 := hq3.free 1
      have f2 := hq3.free 2
      clear d0 d1 d2 hbk hbk3
      go_wp2
      refine bodyPost_ret (results_m rfl rfl (blk_set3 hq3 (.int .i64 (m.v + 1)) (.int .i64 m.n) (.slice A3 (i + (j + (k - s))) c3))) rfl ?_
      exact next_end hfit hB1.fit HR.out hbx.size hown3 hc3 hm3 hB3 hv1 hv3 hn (by simp; omega) (by omega) (by simp; omega)
end
end Sma
end Go.Proofs.Ytncapionioeieaa
