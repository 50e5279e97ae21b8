/- Layer 8: join. -/
import Derived.Test.YtfdfjnepfgabaaaBloI
import Derived.Deep.RegionLaw
set_option linter.all false
namespace Go.Proofs.Ytfdfjnepfgabaaa
open Go.RowKit
namespace Blo

theorem ov_one (o : BOp) (X : Option Addr) (m c : Nat) : ∀ u ∈ ov4 (o, .slice X m c), u.oneCell' = true := by
  intro u hu
  simp only [ov4, List.mem_cons, List.not_mem_nil, or_false] at hu
  rcases hu with rfl | rfl | rfl | rfl <;> rfl
theorem rd_op {w : World} {o : BOp} {X : Option Addr} {m c g : Nat} {t : TypeId} (hg : g = w.heap.size) : Rd (w.alloc (.cells #[.int .i64 o.kind, .int .i64 o.off, .int .i64 o.len, .slice X m c] t)) (some ⟨g, 0, none⟩) 4 1 (ov4 (o, .slice X m c)) := by
  subst hg
  exact Rd.new w #[.int .i64 o.kind, .int .i64 o.off, .int .i64 o.len, .slice X m c] t (0, 0) rfl
theorem grown_below_own {w w' : World} {base : Nat} {e : TypeId} {s n : Nat} {v : Value} {xs : List Value} (hB : Below base w w') (h : w'.ownsRow base e s v n xs) {w2 : World} (hg : w'.grownBy w2 v.ownBlock) (hb : base ≤ w'.heap.size) : Below base w w2 := hB.grown hg hb (own_from h)
theorem grown_drewR {a b : World} {row : Option Nat} (h : a.grownBy b row) : a.grownBy b.drew row := ⟨h.os, h.tape, h.output, h.size, h.block⟩
theorem frozen_grown {w w' : World} {row : Option Nat} (hg : w.grownBy w' row) {g j : Nat} (h : w.frozen? ⟨g, j, none⟩ = false) (hlt : g < w.heap.size) (hne : some g ≠ row) : w'.frozen? ⟨g, j, none⟩ = false := by
  have := hg.block g hlt hne
  unfold World.frozen? at h ⊢
  simp only [this]
  exact h
theorem Dat.drew {w : World} {o : BOp} {X : Option Addr} {m c : Nat} (h : Dat w o X m c) : Dat w.drew o X m c := ⟨h.ns.drew, h.nil, h.le, h.cap, h.by8, h.fit⟩
/-- What is answered: a list of ops of the call's own. -/
def Told (w w' : World) (base : Nat) (e : Ending) (l : List BOp) : Prop := ∃ v n L, e = .returned v ∧ Ol w' base v n L ∧ L.map Prod.fst = l ∧ Below base w w'
section
variable (w : World)
set_option maxRecDepth 100000 in
set_option maxHeartbeats 2000000 in
theorem join_ (base : Nat) (v : Value) (n : Nat) (L : List (BOp × Value)) (o : BOp) (d : Value) (h : Ol w base v n L) (hb : base ≤ w.heap.size) (hn : n ≤ 2000) (hL : ∀ p ∈ L, Sml p.1) (ho : Sml o) (hd : w.ownsRow base 51 1 d o.data.length (nvs o.data)) (hap : ∀ p ∈ L, ∀ g, p.2.ownBlock = some g → d.ownBlock ≠ some g) :
    Calls Try.prog 58 #[v, .agg #[.int .i64 o.kind, .int .i64 o.off, .int .i64 o.len, d]] w fun e w' => Told w w' base e (joinS (L.map Prod.fst) o) := by
  obtain ⟨i0, hi0, hz0, hz1, hz2⟩ := op_info
  have Hz := Lib.hid hz2
  obtain ⟨i1, hi1, hy0, hy1, hy2⟩ := u64_info
  have Hy := Lib.hid hy2
  clear hz2 hy2
  obtain ⟨fk, fo, fl⟩ := ho.fit.all
  have hshort := ho.short
  obtain ⟨X, c, rfl, hqc, hcm, hX⟩ := own_form hd
  have hdat := dat_own hd ho
  generalize hq : o.data.length = q at *
  have Hq := Lib.hid hq
  clear hq
  have hac := Blk.new w 76 #[.int .i64 o.kind, .int .i64 o.off, .int .i64 o.len, .slice X q c] rfl
  have hba : Below w.heap.size w (w.alloc (.cells #[.int .i64 o.kind, .int .i64 o.off, .int .i64 o.len, .slice X q c] 76)) := (Below.refl _ _).alloc (Nat.le_refl _) _
  have hown := h.keep hba
  have hdo := own_keep hd hba
  rcases snoc_cases L with rfl | ⟨P, ⟨y, dy⟩, rfl⟩
  · have hn0 : n = 0 := h.len
    subst hn0
    obtain ⟨A, c', rfl, hc, hcm', hA⟩ := own_form h.row
    clear h hd hdat
    go_enter Try.func58, Try.ntmps58
    go_wp2_with fail
    have hs1 : (w.alloc (.cells #[.int .i64 o.kind, .int .i64 o.off, .int .i64 o.len, .slice X q c] 76)).heap.size = w.heap.size + 1 := by simp
    generalize (w.alloc (.cells #[.int .i64 o.kind, .int .i64 o.off, .int .i64 o.len, .slice X q c] 76)) = w1 at *
    go_quiet (fail)
    have d0 : (w1.drewN nq).cell? ⟨w.heap.size, 0, none⟩ = some (.int .i64 o.kind) := hac.cell rfl
    have d1 : (w1.drewN nq).cell? ⟨w.heap.size, 1, none⟩ = some (.int .i64 o.off) := hac.cell rfl
    have d2 : (w1.drewN nq).cell? ⟨w.heap.size, 2, none⟩ = some (.int .i64 o.len) := hac.cell rfl
    have d3 : (w1.drewN nq).cell? ⟨w.heap.size, 3, none⟩ = some (.slice X q c) := hac.cell rfl
    have hOD : Ol (w1.drewN nq) base (.slice A 0 c') 0 [] := ⟨hown.row, hown.data, hown.apart⟩
    have hDD : (w1.drewN nq).ownsRow base 51 1 (.slice X q c) q (nvs o.data) := hdo
    have hbD : Below w.heap.size w (w1.drewN nq) := below_drewN hba nq
    have hsD : (w1.drewN nq).heap.size = w.heap.size + 1 := hs1
    generalize w1.drewN nq = w2 at *
    go_wp2_with (first
      | (at_builtin
         go_must (refine wpList_app _ rfl (.tmp 20) (.tmp 22) _ rfl base 76 i0 _ 4 48 Try.underlying39 hi0 hz0 hz1 Hz.out rfl (by decide) _ 0 _ rfl (own_keep hOD.row ((Below.refl _ _).alloc (Nat.le_refl _) _)) _ 1 1 (ov4 (o, .slice X q c)) rfl (fun h => by cases h) (rd_op hsD.symm) (ov_one _ _ _ _) (by unfold maxLen; omega) (by omega) (by simp; omega) ?_)
         intro v3 w3 hown3 hg3 hat3))
    go_ret
    have hO3 := hOD.keep (show Below w2.heap.size w2 (w2.alloc (.cells #[.int .i64 o.kind, .int .i64 o.off, .int .i64 o.len, .slice X q c] 76)) from (Below.refl _ _).alloc (Nat.le_refl _) _)
    have hD3 := own_keep hDD (show Below w2.heap.size w2 (w2.alloc (.cells #[.int .i64 o.kind, .int .i64 o.off, .int .i64 o.len, .slice X q c] 76)) from (Below.refl _ _).alloc (Nat.le_refl _) _)
    refine ⟨v3, 0 + 1, [] ++ [(o, .slice X q c)], rfl, ol_push hO3 hg3 hown3 (by rw [Hq.out]; exact hD3) hap, rfl, grown_below_own ((hbD.mono hb).alloc (by omega) _) hO3.row hg3 (by simp; omega)⟩
  · obtain ⟨g, cap, cur, rfl, hnc, hcap, hbg, hnm, hblk, c0, c1, c2, c3, hfz⟩ := ol_last hown
    have hys : Sml y := hL (y, dy) (by simp)
    have hyd := hown.data (y, dy) (by simp)
    dsimp only at hyd
    obtain ⟨Y, cy, rfl, hycc, hycm, hY⟩ := own_form hyd
    have hdy := dat_own hyd hys
    have hdx := hdat.below hba
    have hysh := hys.short
    have hyr := hys.rng
    have hyl := hys.lenB
    have hol := ho.lenB
    have Hj := Lib.hid (joinS_snoc (P.map Prod.fst) y o)
    have hgl := ((h.row.lt g rfl).2)
    have hYlt : ∀ k, (Value.slice Y y.data.length cy).ownBlock = some k → k < w.heap.size := fun k hk => ((h.data (y, .slice Y y.data.length cy) (by simp)).lt k hk).2
    generalize hmy : y.data.length = my at *
    have Hmy := Lib.hid hmy
    generalize hmp : P.length = m at *
    have Hmp := Lib.hid hmp
    have hw1 : IntKind.i64.wrap ((n : Int) - 1) = (m : Int) := by rw [IntKind.wrap_i64]; omega
    have hm0 : (0 : Int) ≤ (m : Int) := by omega
    have hmn : (m : Int) < (n : Int) := by omega
    have hw2 : IntKind.i64.wrap (y.len + o.len) = y.len + o.len := by rw [IntKind.wrap_i64]; omega
    have hsum : y.data.length + o.data.length ≤ 1000 := by rw [Hmy.out, Hq.out]; omega
    have Hnm := Lib.hid hnm
    have hnN : n ≤ 2000 := hn
    clear hnm hmp hmy h hd hdat hys hblk hL
    cases hon : oneB y o with
    | true =>
      go_enter Try.func58, Try.ntmps58
      go_wp2_with fail
      have hs1 : (w.alloc (.cells #[.int .i64 o.kind, .int .i64 o.off, .int .i64 o.len, .slice X q c] 76)).heap.size = w.heap.size + 1 := by simp
      generalize (w.alloc (.cells #[.int .i64 o.kind, .int .i64 o.off, .int .i64 o.len, .slice X q c] 76)) = w1 at *
      have d0 := hac.cell (j := 0) (u := .int .i64 o.kind) rfl
      have d1 := hac.cell (j := 1) (u := .int .i64 o.off) rfl
      have d2 := hac.cell (j := 2) (u := .int .i64 o.len) rfl
      have d3 := hac.cell (j := 3) (u := .slice X q c) rfl
      go_region_held3 (fun w' => w'.cell? ⟨g, m * 4, none⟩ = some (.int .i64 y.kind) ∧ w'.cell? ⟨g, m * 4 + 1, none⟩ = some (.int .i64 y.off) ∧ w'.cell? ⟨g, m * 4 + 2, none⟩ = some (.int .i64 y.len) ∧ w'.cell? ⟨g, m * 4 + 3, none⟩ = some (.slice Y my cy) ∧
          w'.cell? ⟨w.heap.size, 0, none⟩ = some (.int .i64 o.kind) ∧ w'.cell? ⟨w.heap.size, 1, none⟩ = some (.int .i64 o.off) ∧ w'.cell? ⟨w.heap.size, 2, none⟩ = some (.int .i64 o.len) ∧ w'.cell? ⟨w.heap.size, 3, none⟩ = some (.slice X q c))
        (first | go_keep | exact ⟨c0, c1, c2, c3, d0, d1, d2, d3⟩ | exact ⟨(hb2.cell (cell_lt c0)).trans c0, (hb2.cell (cell_lt c1)).trans c1, (hb2.cell (cell_lt c2)).trans c2, (hb2.cell (cell_lt c3)).trans c3, (hb2.cell (cell_lt d0)).trans d0, (hb2.cell (cell_lt d1)).trans d1, (hb2.cell (cell_lt d2)).trans d2, (hb2.cell (cell_lt d3)).trans d3⟩)
        (first
          | (go_at_call 62; refine (one_ _ y o Y X my cy q c hsum hyr hdy.drew hdx.drew).mono ?_; rw [hon]; rintro e w2 ⟨rfl, hb2⟩))
      have hb2' : Below w1.heap.size w1 w2 := below_undrew hb2
      have hO2 : Ol w2 base (.slice (some ⟨g, 0, none⟩) n cap) n (P ++ [(y, .slice Y my cy)]) := hown.keep hb2'
      have hD2 := own_keep hdo hb2'
      have hac2 := hac.keep hb2'
      obtain ⟨g', cap', cur', e', -, -, -, -, -, k0, k1, k2, k3, kz⟩ := ol_last hO2
      rw [Hmp.out] at k0 k1 k2 k3
      injection e' with e' _ e3
      injection e' with e'
      injection e' with e1
      subst e1 e3
      have m2 := hac2.cell (j := 2) (u := .int .i64 o.len) rfl
      have m3 := hac2.cell (j := 3) (u := .slice X q c) rfl
      have kz2 := kz (m * 4 + 2)
      clear c0 c1 c2 c3 d0 d1 d2 d3 hfz
      go_wp2
      go_region
      go_wp2
      have hO3 : Ol (w2.setCell ⟨g, m * 4 + 2, none⟩ (.int .i64 (y.len + o.len))).drew base (.slice (some ⟨g, 0, none⟩) n cap) n (P ++ [({ y with len := y.len + o.len }, .slice Y my cy)]) := by
        have := ol_setLen hO2 (y.len + o.len)
        rw [Hmp.out] at this
        exact ⟨this.row, this.data, this.apart⟩
      have hgg : w2.grownBy (w2.setCell ⟨g, m * 4 + 2, none⟩ (.int .i64 (y.len + o.len))).drew (some g) := grown_drewR (grown_setCell w2 ⟨g, m * 4 + 2, none⟩ (.int .i64 (y.len + o.len)))
      have hD3 := own_grown hD2 hgg (fun k hk e => own_ne hO2.row hD2 (by decide) (g := k) (by rw [e]; rfl) hk)
      have m3' := hgg.cell m3 (by simp only [ne_eq, Option.some.injEq]; omega)
      have hB2 : Below base w w2 := (hba.mono hb).trans (hb2'.mono (Nat.le_trans hb hba.size))
      have hB3 : Below base w (w2.setCell ⟨g, m * 4 + 2, none⟩ (.int .i64 (y.len + o.len))).drew := hB2.grown hgg (Nat.le_trans hb hB2.size) (fun k hk => by injection hk with hk; omega)
      have hsz3 : w.heap.size ≤ (w2.setCell ⟨g, m * 4 + 2, none⟩ (.int .i64 (y.len + o.len))).drew.heap.size := hB3.size
      clear hgg hO2 hD2 hB2 k0 k1 k2 k3 kz kz2 m2 m3 hac2 hown hdo hac hba hb2 hb2'
      generalize (w2.setCell ⟨g, m * 4 + 2, none⟩ (.int .i64 (y.len + o.len))).drew = w3 at *
      obtain ⟨g', cap', cur', e', -, -, -, -, -, k0, k1, k2, k3, kz⟩ := ol_last hO3
      rw [Hmp.out] at k0 k1 k2 k3
      injection e' with e' _ e3
      injection e' with e'
      injection e' with e1
      subst e1 e3
      have hyd3 := hO3.data (_, .slice Y my cy) (List.mem_append_right _ (List.mem_singleton.2 rfl))
      dsimp only at hyd3
      rw [Hmy.out] at hyd3
      have hYne : ∀ k, (Value.slice Y my cy).ownBlock = some k → k ≠ g := fun k hk e => own_ne hO3.row hyd3 (by decide) (g := k) (by rw [e]; rfl) hk
      have q1 := hO3.row
      go_region_law (
        refine step_app _ rfl (.tmp 40) (.tmp 42) _ rfl base 51 i1 _ 1 8 Try.underlying23 hi1 hy0 hy1 Hy.out rfl Nat.one_pos (.slice Y my cy) my _ rfl hyd3 X q c (nvs o.data) rfl (fun h => (hX h).1) (rd_own hD3) (nvs_one _) (by unfold maxLen; omega) (by omega) (Nat.le_trans hb hsz3) ?_
        intro v4 w4 hown4 hg4 hat4
        obtain ⟨A4, c4, rfl, hc4, hm4, hA4⟩ := own_form hown4
        have k4 := hg4.cell k3 (fun e => hYne _ e.symm rfl)
        have f4 := frozen_grown hg4 (kz (m * 4 + 3)) (cell_lt k3) (fun e => hYne _ e.symm rfl))
      all_goals (
        go_wp2
        go_ret
        have hd4 : w4.ownsRow base 51 1 (.slice A4 (my + q) c4) (mergeO y o).data.length (nvs (mergeO y o).data) := by
          have e : (mergeO y o).data.length = my + q := by simp [mergeO, Hmy.out, Hq.out]
          rw [e, mergeO, nvs_app]
          exact hown4
        have hg4' : w3.grownBy w4 (Value.slice Y my cy).ownBlock := ⟨hg4.os, hg4.tape, hg4.output, hg4.size, hg4.block⟩
        have hB4 := grown_below_own hB3 hyd3 hg4' (Nat.le_trans hb hsz3)
        refine ⟨_, n, P ++ [(mergeO y o, .slice A4 (my + q) c4)], rfl, ?_, ?_, ?_⟩
        rotate_left
        · have q := Hj.out
          rw [if_pos hon] at q
          simp only [List.map_append, List.map_cons, List.map_nil]
          exact q.symm
        · exact hB4.setCell hbg _
        · have := ol_setDat hO3 hg4' hd4 (hat4.imp id fun e k hk => by rw [e] at hk; injection hk with hk; exact Nat.le_of_eq hk) rfl rfl rfl
          rw [Hmp.out] at this
          exact this)
    | false =>
      go_enter Try.func58, Try.ntmps58
      go_wp2_with fail
      have hs1 : (w.alloc (.cells #[.int .i64 o.kind, .int .i64 o.off, .int .i64 o.len, .slice X q c] 76)).heap.size = w.heap.size + 1 := by simp
      generalize (w.alloc (.cells #[.int .i64 o.kind, .int .i64 o.off, .int .i64 o.len, .slice X q c] 76)) = w1 at *
      have d0 := hac.cell (j := 0) (u := .int .i64 o.kind) rfl
      have d1 := hac.cell (j := 1) (u := .int .i64 o.off) rfl
      have d2 := hac.cell (j := 2) (u := .int .i64 o.len) rfl
      have d3 := hac.cell (j := 3) (u := .slice X q c) rfl
      go_region_held3 (fun w' => w'.cell? ⟨g, m * 4, none⟩ = some (.int .i64 y.kind) ∧ w'.cell? ⟨g, m * 4 + 1, none⟩ = some (.int .i64 y.off) ∧ w'.cell? ⟨g, m * 4 + 2, none⟩ = some (.int .i64 y.len) ∧ w'.cell? ⟨g, m * 4 + 3, none⟩ = some (.slice Y my cy) ∧
          w'.cell? ⟨w.heap.size, 0, none⟩ = some (.int .i64 o.kind) ∧ w'.cell? ⟨w.heap.size, 1, none⟩ = some (.int .i64 o.off) ∧ w'.cell? ⟨w.heap.size, 2, none⟩ = some (.int .i64 o.len) ∧ w'.cell? ⟨w.heap.size, 3, none⟩ = some (.slice X q c))
        (first | go_keep | exact ⟨c0, c1, c2, c3, d0, d1, d2, d3⟩ | exact ⟨(hb2.cell (cell_lt c0)).trans c0, (hb2.cell (cell_lt c1)).trans c1, (hb2.cell (cell_lt c2)).trans c2, (hb2.cell (cell_lt c3)).trans c3, (hb2.cell (cell_lt d0)).trans d0, (hb2.cell (cell_lt d1)).trans d1, (hb2.cell (cell_lt d2)).trans d2, (hb2.cell (cell_lt d3)).trans d3⟩)
        (first
          | (go_at_call 62; refine (one_ _ y o Y X my cy q c hsum hyr hdy.drew hdx.drew).mono ?_; rw [hon]; rintro e w2 ⟨rfl, hb2⟩))
      have hb2' : Below w1.heap.size w1 w2 := below_undrew hb2
      have hO2 : Ol w2 base (.slice (some ⟨g, 0, none⟩) n cap) n (P ++ [(y, .slice Y my cy)]) := hown.keep hb2'
      have hD2 := own_keep hdo hb2'
      have hac2 := hac.keep hb2'
      have m0 := hac2.cell (j := 0) (u := .int .i64 o.kind) rfl
      have m1 := hac2.cell (j := 1) (u := .int .i64 o.off) rfl
      have m2 := hac2.cell (j := 2) (u := .int .i64 o.len) rfl
      have m3 := hac2.cell (j := 3) (u := .slice X q c) rfl
      have hB2 : Below base w w2 := (hba.mono hb).trans (hb2'.mono (Nat.le_trans hb hba.size))
      have hs2 := hB2.size
      clear c0 c1 c2 c3 d0 d1 d2 d3 hfz
      go_wp2_with (first
        | (at_builtin
           go_must (refine wpList_app _ rfl (.tmp 20) (.tmp 22) _ rfl base 76 i0 _ 4 48 Try.underlying39 hi0 hz0 hz1 Hz.out rfl (by decide) _ n _ rfl (own_keep hO2.row ((Below.refl _ _).alloc (Nat.le_refl _) _)) _ 1 1 (ov4 (o, .slice X q c)) rfl (fun h => by cases h) (rd_op rfl) (ov_one _ _ _ _) (by unfold maxLen; omega) (by omega) (by simp; omega) ?_)
           intro v3 w3 hown3 hg3 hat3))
      go_ret
      have hO3 := hO2.keep (show Below w2.heap.size w2 (w2.alloc (.cells #[.int .i64 o.kind, .int .i64 o.off, .int .i64 o.len, .slice X q c] 76)) from (Below.refl _ _).alloc (Nat.le_refl _) _)
      have hD3 := own_keep hD2 (show Below w2.heap.size w2 (w2.alloc (.cells #[.int .i64 o.kind, .int .i64 o.off, .int .i64 o.len, .slice X q c] 76)) from (Below.refl _ _).alloc (Nat.le_refl _) _)
      refine ⟨v3, n + 1, (P ++ [(y, .slice Y my cy)]) ++ [(o, .slice X q c)], rfl, ol_push hO3 hg3 hown3 (by rw [Hq.out]; exact hD3) hap, ?_, grown_below_own (hB2.alloc (by omega) _) hO3.row hg3 (by simp; omega)⟩
      have q := Hj.out
      rw [if_neg (by rw [hon]; simp)] at q
      simp only [List.map_append, List.map_cons, List.map_nil]
      exact q.symm
end
end Blo
end Go.Proofs.Ytfdfjnepfgabaaa
