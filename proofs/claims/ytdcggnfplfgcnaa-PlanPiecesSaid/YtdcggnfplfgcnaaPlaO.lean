/- Layer 14: plan's Whole. -/
import Derived.Test.YtdcggnfplfgcnaaPlaN
import Derived.BigRegion
set_option linter.all false
namespace Go.Proofs.Ytdcggnfplfgcnaa
open Go.RowKit
namespace Pla
open Blo (I64 Dat Sml FitB Opl dat_own ns_get cons_eq cons_ne drop_of)
open Sma (Pc Mp Mr mv runB run_mem)

/-- What is answered: an op whose numbers lie in a row of the call's own, and an error's number. -/
def WholeAns (w w' : World) (e : Ending) (r : BOp × Int) : Prop := ∃ d, e = .returned (.tuple #[oa r.1 d, .int .i64 r.2]) ∧ w'.ownsRow w.heap.size 64 1 d r.1.data.length (nvs r.1.data) ∧ Below w.heap.size w w'
theorem results_w {fn : Func} {W : World} {q k j : Nat} {x y z d : Value} {tmps : Array Value} (h : fn.results = #[.cell k 27, .tmp j]) (h2 : tmps.getD k undef = .pointer (some ⟨q, 0, none⟩)) (hb : Blk W q 27 #[x, y, z, d]) :
    (results fn tmps).run Try.prog W = .ok (.tuple #[.agg #[x, y, z, d], tmps.getD j undef]) W := by
  have d0 := hb.cell (j := 0) rfl
  have d1 := hb.cell (j := 1) rfl
  have d2 := hb.cell (j := 2) rfl
  have d3 := hb.cell (j := 3) rfl
  have h2' : tmps[k]?.getD undef = .pointer (some ⟨q, 0, none⟩) := by simpa using h2
  simp [results, h, h2', go_sem, d0, d1, d2, d3]
theorem whole_ans {w w' : World} {e : Ending} {r x : BOp × Int} (hr : r = x) {d : Value} (he : e = .returned (.tuple #[oa x.1 d, .int .i64 x.2])) (hd : w'.ownsRow w.heap.size 64 1 d x.1.data.length (nvs x.1.data)) (hb : Below w.heap.size w w') : WholeAns w w' e r := by
  subst hr
  exact ⟨d, he, hd, hb⟩
theorem mid_i64 {u : BOp} (h : Mid u) (hk : I64 u.kind) (ho : I64 u.off) : FitB u := ⟨hk, ho, by have := h.len; unfold I64; omega⟩
theorem dat_mid {w : World} {base : Nat} {u : BOp} {A : Option Addr} {m c : Nat} (h : w.ownsRow base 64 1 (.slice A m c) m (nvs u.data)) (hm : Mid u) (hk : I64 u.kind) (ho : I64 u.off) (hl : ∀ z ∈ u.data, z < 18446744073709551616) : Dat w u A m c := by
  have hlen : m = u.data.length := by have := h.1; rw [nvs_length] at this; omega
  obtain ⟨A', c', e, h1, h2, h3⟩ := own_form h
  injection e with e1 _ e3
  subst e1 e3
  have := hm.len
  exact ⟨no_ns h hl, h3, h1, by unfold maxLen at h2; omega, by omega, mid_i64 hm hk ho⟩
theorem wholeA_cons {L : List (Pt × Value)} {p : Pt × Value} (h : L[0]? = some p) : wholeA (L.map Prod.fst) = wholeGo (startO p.1.op) (L.map Prod.fst) := by
  cases L with
  | nil => cases h
  | cons a L => injection h with h; subst h; rfl
theorem add_len (u o : BOp) : (addO u o).data.length = u.data.length + o.data.length := by simp [addO]
section
variable (w : World)
set_option maxRecDepth 100000 in
set_option maxHeartbeats 4000000 in
theorem whole_ (A : Option Addr) (n c : Nat) (L : List (Pt × Value)) (h : Ptl w A n L) (hn : n ≤ 1000000) :
    Calls Try.prog 22 #[.slice A n c] w fun e w' => WholeAns w w' e (wholeA (L.map Prod.fst)) := by
  obtain ⟨i1, hi1, hy0, hy1, hy2⟩ := u64_info
  have Hy := Lib.hid hy2
  have Hl := Lib.hid h.len
  clear hy2
  have hba := (Below.refl w.heap.size w).alloc (Nat.le_refl _) (oo zO (.slice none 0 0))
  by_cases h0 : n = 0
  · have HA := Lib.hid (show wholeA (L.map Prod.fst) = (zO, 9) by rw [List.eq_nil_of_length_eq_zero (l := L) (by rw [← Hl.out]; exact h0)]; rfl)
    have t0 : ((n : Int) == 0) = true := by simp [h0]
    clear h h0
    go_enter Try.func22, Try.ntmps22
    go_wp2
    refine bodyPost_ret (results_w (q := w.heap.size) rfl rfl (Blk.new w 27 #[.int .i64 0, .int .i64 0, .int .i64 0, .slice none 0 0] rfl)) rfl ?_
    exact whole_ans HA.out rfl (own_nil _ _ _ _) hba
  · have t0 : ((n : Int) == 0) = false := by simpa using h0
    obtain ⟨b, o, q, X, m, cc, rfl, hx, ipc, ind, dx, c0, c1, c2, c3, c4, c5⟩ := h.at_ (k := 0) (by omega)
    simp only [Nat.zero_mul, Nat.add_zero] at c0 c1 c2 c3 c4 c5
    have HW := Lib.hid (wholeA_cons hx)
    obtain ⟨fk, ff, fl⟩ := dx.fit.all
    have hn0 : (0 : Int) < (n : Int) := by omega
    have hz1 := Blk.new w 27 #[.int .i64 0, .int .i64 0, .int .i64 0, .slice none 0 0] rfl
    obtain ⟨w2, hw2⟩ : ∃ w2, ((w.alloc (.cells #[.int .i64 0, .int .i64 0, .int .i64 0, .slice none 0 0] 27)).alloc (.cells #[.int .i64 q.op.kind, .int .i64 q.op.off, .int .i64 0, .slice none 0 0] 27)).drew = w2 := ⟨_, rfl⟩
    have hb2 : Below w.heap.size w w2 := by rw [← hw2]; exact below_drewN ((hba.alloc (by simp) _)) 1
    have hz2 : Blk w2 w.heap.size 27 #[.int .i64 0, .int .i64 0, .int .i64 0, .slice none 0 0] := by rw [← hw2]; exact hz1.alloc _
    have hk2 : Blk w2 (w.heap.size + 1) 27 #[.int .i64 q.op.kind, .int .i64 q.op.off, .int .i64 0, .slice none 0 0] := by rw [← hw2]; exact Blk.new _ _ _ (by simp)
    have hs2 : w2.heap.size = w.heap.size + 2 := by rw [← hw2]; simp
    have g2 := (((Below.refl w.heap.size w).alloc (Nat.le_refl _) (oo zO (.slice none 0 0))).cell (cell_lt c2)).trans c2
    have g3 := (((Below.refl w.heap.size w).alloc (Nat.le_refl _) (oo zO (.slice none 0 0))).cell (cell_lt c3)).trans c3
    simp only [zO] at g2 g3
    have g22 : ∀ o1 o2, ((w.alloc o1).alloc o2).cell? ⟨b, o + 2, none⟩ = some (.int .i64 q.op.kind) := fun o1 o2 => ((((Below.refl w.heap.size w).alloc (Nat.le_refl _) o1).alloc (by simp) o2).cell (cell_lt c2)).trans c2
    have g33 : ∀ o1 o2, ((w.alloc o1).alloc o2).cell? ⟨b, o + 2 + 1, none⟩ = some (.int .i64 q.op.off) := fun o1 o2 => ((((Below.refl w.heap.size w).alloc (Nat.le_refl _) o1).alloc (by simp) o2).cell (cell_lt c3)).trans c3
    have g3' : (w.alloc (oo ⟨0, 0, 0, []⟩ (.slice none 0 0))).cell? ⟨b, o + 2 + 1, none⟩ = some (.int .i64 q.op.off) := g3
    have hnN : 0 < n := by omega
    have hqk : I64 q.op.kind := dx.fit.kind
    have hqo : I64 q.op.off := dx.fit.off
    clear c0 c1 c4 c5 hx ipc ind dx hba hz1
    go_enter Try.func22, Try.ntmps22
    have HW2 := Lib.hid hw2
    clear hw2
    go_wp2_with fail
    go_region
    rw [HW2.out]
    clear HW2 c2 c3 g2 g3 g22 g33 g3'
    go_wp2_with fail
    go_loopw [24] (fun iv wr => ∃ (i : Nat) (u : BOp) (V : Value), i ≤ n ∧ iv = .int .i64 (i : Int) ∧ Mid u ∧ I64 u.kind ∧ I64 u.off ∧ (∀ z ∈ u.data, z < 18446744073709551616) ∧ Blk wr (w.heap.size + 1) 27 #[.int .i64 u.kind, .int .i64 u.off, .int .i64 u.len, V] ∧ Blk wr w.heap.size 27 #[.int .i64 0, .int .i64 0, .int .i64 0, .slice none 0 0] ∧ wr.ownsRow (w.heap.size + 2) 64 1 V u.data.length (nvs u.data) ∧ wholeGo u ((L.drop i).map Prod.fst) = wholeA (L.map Prod.fst) ∧ Below w.heap.size w wr ∧ w.heap.size + 2 ≤ wr.heap.size) (fun iv _ => n - (intOf iv).toNat)
    case atStart => exact ⟨0, startO q.op, .slice none 0 0, Nat.zero_le _, rfl, mid_start _, hqk, hqo, by simp [startO], hk2, hz2, own_nil _ _ _ _, HW.out.symm, hb2, by omega⟩
    case round =>
      obtain ⟨i, u, V, hi, rfl, hM, huk, huo, hlow, hkr, hzr, hO, hL, hb, hsr⟩ := hrel
      obtain ⟨VA, vc, rfl, hvc, hvm, hvA⟩ := own_form hO
      by_cases hlt : i < n
      · have hil : (i : Int) < (n : Int) := by omega
        have hi0 : (0 : Int) ≤ (i : Int) := by omega
        obtain ⟨b', o', x, X', m', c', hA, hx, -, -, dx, a0, a1, a2, a3, a4, a5⟩ := h.at_ hlt
        injection hA with hA
        injection hA with hA1 hA2
        subst hA1 hA2
        have c0 := (hb.cell (cell_lt a0)).trans a0
        have c1 := (hb.cell (cell_lt a1)).trans a1
        have c2 := (hb.cell (cell_lt a2)).trans a2
        have c3 := (hb.cell (cell_lt a3)).trans a3
        have c4 := (hb.cell (cell_lt a4)).trans a4
        have c5 := (hb.cell (cell_lt a5)).trans a5
        rw [drop_of hx, List.map_cons] at hL
        simp only at hL
        have hba : Below wr.heap.size wr (wr.alloc (pto x (.slice X' m' c') 67)) := (Below.refl _ _).alloc (Nat.le_refl _) _
        have hB := below_step hb hba (Nat.le_refl _)
        have hcp := Blk.new wr 67 #[.int .i64 x.pc, .int .i64 x.nd, .int .i64 x.op.kind, .int .i64 x.op.off, .int .i64 x.op.len, .slice X' m' c'] rfl
        have hk1 := hkr.keep hba
        have hz1 := hzr.keep hba
        have hO1 := own_keep hO hba
        obtain ⟨d0, d1, d2, d3, -, -, -, -⟩ := cells4 hk1
        obtain ⟨p0, p1, p2, p3, p4, p5⟩ := cells6 hcp
        have hdu := dat_mid hO1 hM huk huo hlow
        have hdx := dx.below hB
        have hml := hM.len
        clear hx a0 a1 a2 a3 a4 a5 hkr hzr hO hb
        go_wp2_with fail
        refine (goesOn_ _ u x.op VA X' _ vc m' c' hdu hM hdx).mono ?_
        cases hg : goesB u x.op with
        | false =>
          rintro e w3 ⟨rfl, hb3⟩
          rw [go_no hg] at hL
          have HA := Lib.hid hL.symm
          have hB3 := below_step hB hb3 (Nat.le_refl _)
          have hz3 := hz1.keep hb3
          obtain ⟨z0, z1, z2, z3, y0, y1, y2, y3⟩ := cells4 hz3
          clear hL hg c0 c1 c2 c3 c4 c5 d0 d1 d2 d3 p0 p1 p2 p3 p4 p5
          go_wp2
          refine bodyPost_ret (results_w (q := w.heap.size) rfl rfl (blk_set4 hz3 _ _ _ _)) rfl ?_
          exact whole_ans HA.out rfl (own_nil _ _ _ _) (below_set4 hB3 (Nat.le_refl _) (Nat.le_refl _) _ _ _ _)
        | true =>
          rintro e w3 ⟨rfl, hb3⟩
          rw [go_yes hg] at hL
          obtain ⟨hMn, -⟩ := add_goes hM hg
          have hnl := hMn.len
          have hal := add_len u x.op
          have hxl := hdx.len
          have HL := Lib.hid hL
          have hB3 := below_step hB hb3 (Nat.le_refl _)
          have hk3 := hk1.keep hb3
          have hz3 := hz1.keep hb3
          have hc3 := hcp.keep hb3
          have hO3 := own_keep hO1 hb3
          have hs3 : wr.heap.size + 1 ≤ w3.heap.size := by have := hb3.size; simpa using this
          obtain ⟨l0, l1, l2⟩ : 0 ≤ u.len + x.op.len ∧ u.len + x.op.len ≤ 1024 ∧ u.data.length + m' ≤ 1024 := ⟨hnl.1, hnl.2.1, by omega⟩
          have hwl : IntKind.i64.wrap (u.len + x.op.len) = u.len + x.op.len := by rw [IntKind.wrap_i64]; omega
          have hk4 : Blk (w3.setCell ⟨w.heap.size + 1, 2, none⟩ (.int .i64 (u.len + x.op.len))) (w.heap.size + 1) 27 #[.int .i64 u.kind, .int .i64 u.off, .int .i64 (u.len + x.op.len), .slice VA u.data.length vc] := by simpa using hk3.setCell 2 (.int .i64 (u.len + x.op.len))
          have hgr4 := grown_setCell w3 ⟨w.heap.size + 1, 2, none⟩ (.int .i64 (u.len + x.op.len))
          have hz4 := hz3.grown hgr4 (fun e => by injection e with e; simp at e)
          have hc4 := hc3.grown hgr4 (fun e => by injection e with e; simp at e; omega)
          have hO4 := own_grown hO3 hgr4 (fun j hj e => by injection e with e; have := (hO3.lt j hj).1; simp at e; omega)
          have hB4 : Below w.heap.size w (w3.setCell ⟨w.heap.size + 1, 2, none⟩ (.int .i64 (u.len + x.op.len))) := hB3.setCell (by simp) _
          have hdx4 := dx.below hB4
          obtain ⟨q0, q1, q2, q3, f0, f1, f2, f3⟩ := cells4 hk3
          obtain ⟨r0, r1, r2, r3, f4, f5, f6, f7⟩ := cells4 hk4
          obtain ⟨s0, s1, s2, s3, s4, s5⟩ := cells6 hc3
          obtain ⟨v0, v1, v2, v3, v4, v5⟩ := cells6 hc4
          have hs4 : (w3.setCell ⟨w.heap.size + 1, 2, none⟩ (.int .i64 (u.len + x.op.len))).heap.size = w3.heap.size := by simp
          have hXn : X' = none → m' = 0 := fun e => (hdx4.nil e).1
          have hmx : u.data.length + m' ≤ maxLen := by unfold maxLen; omega
          have hby : (u.data.length + m') * 8 ≤ 140737488355328 := by omega
          have hbz : w.heap.size + 2 ≤ (w3.setCell ⟨w.heap.size + 1, 2, none⟩ (.int .i64 (u.len + x.op.len))).heap.size := by rw [hs4]; omega
          have Hxl := Lib.hid hxl
          have hlow' : ∀ z ∈ (addO u x.op).data, z < 18446744073709551616 := fun z hz => by
            rcases List.mem_append.1 hz with hz | hz
            · exact hlow z hz
            · exact dx.ns.2 z hz
          clear hL hg c0 c1 c2 c3 c4 c5 d0 d1 d2 d3 p0 p1 p2 p3 p4 p5 hal hxl hnl hs4 hdu hdx hk1 hz1 hcp hO1
          go_wp2_with (first
            | (at_builtin
               go_must (refine wpList_app _ rfl (.tmp 42) (.tmp 45) _ rfl (w.heap.size + 2) 64 i1 _ 1 8 Try.underlying25 hi1 hy0 hy1 Hy.out rfl Nat.one_pos _ _ _ rfl hO4 X' m' c' (nvs x.op.data) rfl hXn hdx4.ns.1 (nvs_one _) hmx hby hbz ?_)
               intro v6 w6 hown6 hg6 hat6
               have hk6 := hk4.grown hg6 (fun e => by have := (hO4.lt _ e.symm).1; omega)
               have hz6 := hz4.grown hg6 (fun e => by have := (hO4.lt _ e.symm).1; omega)
               have hB6 : Below w.heap.size w w6 := hB4.grown hg6 hB4.size (fun j hj => Nat.le_trans (by omega) (hO4.lt j hj).1)
               have hs6 := hg6.size
               obtain ⟨g0, g1, g2, g3, e0, e1, e2, e3⟩ := cells4 hk6
               obtain ⟨V6, c6, rfl, hc6, hm6, ha6⟩ := own_form hown6)
            | fail)
          have hgr7 := grown_setCell w6 ⟨w.heap.size + 1, 3, none⟩ (.slice V6 (u.data.length + m') c6)
          have hk7 : Blk (w6.setCell ⟨w.heap.size + 1, 3, none⟩ (.slice V6 (u.data.length + m') c6)) (w.heap.size + 1) 27 #[.int .i64 (addO u x.op).kind, .int .i64 (addO u x.op).off, .int .i64 (addO u x.op).len, .slice V6 (u.data.length + m') c6] := by simpa [addO] using hk6.setCell 3 (.slice V6 (u.data.length + m') c6)
          have hz7 := hz6.grown hgr7 (fun e => by injection e with e; simp at e)
          have hO7 : (w6.setCell ⟨w.heap.size + 1, 3, none⟩ (.slice V6 (u.data.length + m') c6)).ownsRow (w.heap.size + 2) 64 1 (.slice V6 (u.data.length + m') c6) (addO u x.op).data.length (nvs (addO u x.op).data) := by
            rw [add_len, ← Hxl.out, show (addO u x.op).data = u.data ++ x.op.data from rfl, nvs_app]
            exact own_grown hown6 hgr7 (fun j hj e => by injection e with e; have := (hown6.lt j hj).1; simp at e; omega)
          have hB7 : Below w.heap.size w (w6.setCell ⟨w.heap.size + 1, 3, none⟩ (.slice V6 (u.data.length + m') c6)) := hB6.setCell (by simp) _
          have hs7 : w.heap.size + 2 ≤ (w6.setCell ⟨w.heap.size + 1, 3, none⟩ (.slice V6 (u.data.length + m') c6)).heap.size := by simp; omega
          go_roundw
          case rel => exact ⟨i + 1, addO u x.op, _, by omega, by go_num, hMn, huk, huo, hlow', hk7, hz7, hO7, HL.out, hB7, hs7⟩
          case measure => simp [intOf]; omega
      · have hin : ¬ (i : Int) < (n : Int) := by omega
        rw [List.drop_of_length_le (by have := Hl.out; omega)] at hL
        have HL := Lib.hid hL.symm
        obtain ⟨d0, d1, d2, d3, -, -, -, -⟩ := cells4 hkr
        obtain ⟨z0, z1, z2, z3, y0, y1, y2, y3⟩ := cells4 hzr
        clear hL
        go_wp2
        refine bodyPost_ret (results_w (q := w.heap.size) rfl rfl (blk_set4 hzr _ _ _ _)) rfl ?_
        refine whole_ans HL.out rfl ?_ (below_set4 hb (Nat.le_refl _) (Nat.le_refl _) _ _ _ _)
        exact (own_grown hO (grown4 wr w.heap.size _ _ _ _) (fun j hj e => by injection e with e; have := (hO.lt j hj).1; omega)).mono (by omega)
end
end Pla
end Go.Proofs.Ytdcggnfplfgcnaa
