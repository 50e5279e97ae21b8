/- Layer 14: the document's Whole. Printed by wip/tools/genplap.py. -/
import Derived.Test.YtdcggnfplfgcnaaPlaO
import Derived.Deep.DeepCutAuto
import Derived.Deep.CutBlock
set_option linter.all false
namespace Go.Proofs.Ytdcggnfplfgcnaa
open Go.RowKit
namespace Pla
open Blo (I64 Dat Sml FitB Opl dat_own ns_get cons_eq cons_ne drop_of)
open Sma (Pc Mp Mr mv runB run_mem)

def plB (x : BOp) (m : Nat) : Bool := (decide (x.kind = 1) && decide (x.len = 0)) || (decide (x.kind = 2) && decide (m = 0))
theorem plB_yes {w : World} {o : BOp} {X : Option Addr} {m c : Nat} (hd : Dat w o X m c) (h : plB o m = true) : plainB o = true := by
  simp only [plB, Bool.or_eq_true, Bool.and_eq_true, decide_eq_true_eq] at h
  rcases h with ⟨h1, h2⟩ | ⟨h1, h2⟩
  · rw [plain_write h1]; simp [h2]
  · rw [plain_else (by omega), data_nil hd]; simp [h2]
theorem plB_no {w : World} {u o : BOp} {X : Option Addr} {m c : Nat} (hd : Dat w o X m c) (h : plB o m = false) : goesB u o = false := by
  by_cases h1 : o.kind = 1
  · refine goes_no (.inr (.inr (.inr (.inr (.inl ?_)))))
    rw [plain_write h1]
    simp [plB, h1] at h
    simpa using h
  · by_cases h2 : o.kind = 2
    · refine goes_no (.inr (.inr (.inr (.inr (.inl ?_)))))
      rw [plain_else h1, data_nil hd]
      simp [plB, h2] at h
      simpa using h
    · exact goes_no (.inr (.inr (.inr (.inr (.inr (.inl (by rw [cnt_else h1 h2]; omega)))))))
theorem start_cnt (o : BOp) : (startO o).cnt = 0 := by
  have h := (mid_start o).off
  by_cases h1 : o.kind = 1
  · rw [cnt_write (o := startO o) h1]; rfl
  · by_cases h2 : o.kind = 2
    · rw [cnt_trim (o := startO o) h2]; rfl
    · exact cnt_else (o := startO o) h1 h2
section
variable (w : World)
set_option maxRecDepth 100000 in
set_option maxHeartbeats 4000000 in
theorem rwhole_ (A : Option Addr) (n c : Nat) (L : List (Pt × Value)) (h : Ptl w A n L) (hn : n ≤ 1000000) :
    Calls Try.prog 24 #[.slice A n c] w fun e w' => WholeAns w w' e (wholeA (L.map Prod.fst)) := by
  obtain ⟨i1, hi1, hy0, hy1, hy2⟩ := u64_info
  have Hy := Lib.hid hy2
  have Hl := Lib.hid h.len
  clear hy2
  have hba := (Below.refl w.heap.size w).alloc (Nat.le_refl _) (oo zO (.slice none 0 0))
  by_cases h0 : n = 0
  · have HA := Lib.hid (show wholeA (L.map Prod.fst) = (zO, 9) by rw [List.eq_nil_of_length_eq_zero (l := L) (by rw [← Hl.out]; exact h0)]; rfl)
    have t0 : ((n : Int) == 0) = true := by simp [h0]
    clear h h0
    go_enter Try.func24, Try.ntmps24
    go_wp2
    refine bodyPost_ret (results_w (q := w.heap.size) rfl rfl (Blk.new w 27 #[.int .i64 0, .int .i64 0, .int .i64 0, .slice none 0 0] rfl)) rfl ?_
    exact whole_ans HA.out rfl (own_nil _ _ _ _) hba
  · have t0 : ((n : Int) == 0) = false := by simpa using h0
    obtain ⟨b, o, q, X, m, cc, rfl, hx, ipc, ind, dx, c0, c1, c2, c3, c4, c5⟩ := h.at_ (k := 0) (by omega)
    simp only [Nat.zero_mul, Nat.add_zero] at c0 c1 c2 c3 c4 c5
    have HW := Lib.hid (wholeA_cons hx)
    obtain ⟨fk, ff, fl⟩ := dx.fit.all
    have hn0 : (0 : Int) < (n : Int) := by omega
    have hz1 := Blk.new w 27 #[.int .i64 0, .int .i64 0, .int .i64 0, .slice none 0 0] rfl
    obtain ⟨w2, hw2⟩ : ∃ w2, ((w.alloc (.cells #[.int .i64 0, .int .i64 0, .int .i64 0, .slice none 0 0] 27)).alloc (.cells #[.int .i64 q.op.kind, .int .i64 q.op.off, .int .i64 0, .slice none 0 0] 27)).drew = w2 := ⟨_, rfl⟩
    have hb2 : Below w.heap.size w w2 := by rw [← hw2]; exact below_drewN ((hba.alloc (by simp) _)) 1
    have hz2 : Blk w2 w.heap.size 27 #[.int .i64 0, .int .i64 0, .int .i64 0, .slice none 0 0] := by rw [← hw2]; exact hz1.alloc _
    have hk2 : Blk w2 (w.heap.size + 1) 27 #[.int .i64 q.op.kind, .int .i64 q.op.off, .int .i64 0, .slice none 0 0] := by rw [← hw2]; exact Blk.new _ _ _ (by simp)
    have hs2 : w2.heap.size = w.heap.size + 2 := by rw [← hw2]; simp
    have g2 := (((Below.refl w.heap.size w).alloc (Nat.le_refl _) (oo zO (.slice none 0 0))).cell (cell_lt c2)).trans c2
    have g3 := (((Below.refl w.heap.size w).alloc (Nat.le_refl _) (oo zO (.slice none 0 0))).cell (cell_lt c3)).trans c3
    simp only [zO] at g2 g3
    have g22 : ∀ o1 o2, ((w.alloc o1).alloc o2).cell? ⟨b, o + 2, none⟩ = some (.int .i64 q.op.kind) := fun o1 o2 => ((((Below.refl w.heap.size w).alloc (Nat.le_refl _) o1).alloc (by simp) o2).cell (cell_lt c2)).trans c2
    have g33 : ∀ o1 o2, ((w.alloc o1).alloc o2).cell? ⟨b, o + 2 + 1, none⟩ = some (.int .i64 q.op.off) := fun o1 o2 => ((((Below.refl w.heap.size w).alloc (Nat.le_refl _) o1).alloc (by simp) o2).cell (cell_lt c3)).trans c3
    have g3' : (w.alloc (oo ⟨0, 0, 0, []⟩ (.slice none 0 0))).cell? ⟨b, o + 2 + 1, none⟩ = some (.int .i64 q.op.off) := g3
    have hnN : 0 < n := by omega
    have hqk : I64 q.op.kind := dx.fit.kind
    have hqo : I64 q.op.off := dx.fit.off
    clear c0 c1 c4 c5 hx ipc ind dx hba hz1
    go_enter Try.func24, Try.ntmps24
    have HW2 := Lib.hid hw2
    clear hw2
    go_wp2_with fail
    go_region
    rw [HW2.out]
    obtain ⟨e0, e1, e2, e3, -, -, -, -⟩ := cells4 hk2
    clear HW2 c2 c3 g2 g3 g22 g33 g3'
    go_wp2_with fail
    go_loopw [5, 6, 7] (fun av nv iv wr => ∃ (i : Nat) (u : BOp) (V : Value), i ≤ n ∧ iv = .int .i64 (i : Int) ∧ av = .int .i64 (u.off + u.cnt) ∧ nv = .int .i64 u.cnt ∧ Mid u ∧ I64 u.kind ∧ I64 u.off ∧ (∀ z ∈ u.data, z < 18446744073709551616) ∧ Blk wr (w.heap.size + 1) 27 #[.int .i64 u.kind, .int .i64 u.off, .int .i64 u.len, V] ∧ Blk wr w.heap.size 27 #[.int .i64 0, .int .i64 0, .int .i64 0, .slice none 0 0] ∧ wr.ownsRow (w.heap.size + 2) 64 1 V u.data.length (nvs u.data) ∧ wholeGo u ((L.drop i).map Prod.fst) = wholeA (L.map Prod.fst) ∧ Below w.heap.size w wr ∧ w.heap.size + 2 ≤ wr.heap.size) (fun _ _ iv _ => n - (intOf iv).toNat)
    case atStart => exact ⟨0, startO q.op, .slice none 0 0, Nat.zero_le _, rfl, by rw [start_cnt]; simp [startO], by rw [start_cnt], mid_start _, hqk, hqo, by simp [startO], hk2, hz2, own_nil _ _ _ _, HW.out.symm, hb2, by omega⟩
    case round =>
      obtain ⟨i, u, V, hi, rfl, rfl, rfl, hM, huk, huo, hlow, hkr, hzr, hO, hL, hb, hsr⟩ := hrel
      obtain ⟨VA, vc, rfl, hvc, hvm, hvA⟩ := own_form hO
      by_cases hlt : i < n
      · have hil : (i : Int) < (n : Int) := by omega
        have hi0 : (0 : Int) ≤ (i : Int) := by omega
        obtain ⟨b', o', x, X', m', c', hA, hx, -, -, dx, a0, a1, a2, a3, a4, a5⟩ := h.at_ hlt
        injection hA with hA
        injection hA with hA1 hA2
        subst hA1 hA2
        have c2 := (hb.cell (cell_lt a2)).trans a2
        have c3 := (hb.cell (cell_lt a3)).trans a3
        have c4 := (hb.cell (cell_lt a4)).trans a4
        have c5 := (hb.cell (cell_lt a5)).trans a5
        rw [drop_of hx, List.map_cons] at hL
        simp only at hL
        have hba : Below wr.heap.size wr (wr.alloc (oo x.op (.slice X' m' c'))) := (Below.refl _ _).alloc (Nat.le_refl _) _
        have hB := below_step hb hba (Nat.le_refl _)
        have hcp := Blk.new wr 27 #[.int .i64 x.op.kind, .int .i64 x.op.off, .int .i64 x.op.len, .slice X' m' c'] rfl
        have hk1 := hkr.keep hba
        have hz1 := hzr.keep hba
        have hO1 := own_keep hO hba
        obtain ⟨p0, p1, p2, p3, -, -, -, -⟩ := cells4 hcp
        have hdu := dat_mid hO1 hM huk huo hlow
        have hdx := dx.below hB
        have hml := hM.low
        have hmh := hM.high
        have hci := cnt_i64 hdx
        have hcne : ∀ {g : Nat}, (Value.slice VA u.data.length vc).ownBlock = some g → ¬ g = wr.heap.size := fun hg => Nat.ne_of_lt (hO.lt _ hg).2
        have hdn := data_nil hdx
        obtain ⟨xk, xo, xl⟩ := hdx.fit.all
        obtain ⟨uk1, uk2⟩ := huk
        obtain ⟨uo1, uo2⟩ := huo
        have huk : I64 u.kind := ⟨uk1, uk2⟩
        have huo : I64 u.off := ⟨uo1, uo2⟩
        unfold I64 at hci
        clear hx a0 a1 a2 a3 a4 a5 hkr hzr hO hb
        go_wp2_with fail
        refine (Blo.rrange_ _ x.op X' m' c' hdx).mono ?_
        rintro e w3 ⟨rfl, hb3⟩
        have hB3 := below_step hB hb3 (Nat.le_refl _)
        have hc3 := hcp.keep hb3
        have hw2 : IntKind.i64.wrap (1024 - u.cnt) = 1024 - u.cnt := by rw [IntKind.wrap_i64]; omega
        clear c2 c3 c4 c5 p0 p1 p2 p3
        obtain ⟨p0, p1, p2, p3, -, -, -, -⟩ := cells4 hc3
        have hk3 := hk1.keep hb3
        have hO3 := own_keep hO1 hb3
        obtain ⟨d0, d1, d2, d3, -, -, -, -⟩ := cells4 hk3
        have hgF : plB x.op m' = false → goesB u x.op = false := plB_no hdx
        have hgT : plB x.op m' = true → plainB x.op = true := plB_yes hdx
        have hdx4 := dx.below hB3
        clear hdu hdx hdn hcp hO1 h
        go_upto_region 11 with fail
        go_cut [11] (fun v wc => v = .bool (plB x.op m') ∧ w3 = wc)
        case first =>
          by_cases e1 : x.op.kind = 1
          · have tk1 : (x.op.kind == 1) = true := by simpa using e1
            have tk2 : (x.op.kind == 2) = false := by simp; omega
            by_cases e2 : x.op.len = 0
            · have tl : (x.op.len == 0) = true := by simpa using e2
              have HP := Lib.hid (show plB x.op m' = true by simp [plB, e1, e2])
              clear e1 e2
              go_wp2_with fail
              go_meet
              exact ⟨by rw [HP.out], rfl⟩
            · have tl : (x.op.len == 0) = false := by simpa using e2
              have HP := Lib.hid (show plB x.op m' = false by simp [plB, e1, e2])
              clear e1 e2
              go_wp2_with fail
              go_meet
              exact ⟨by rw [HP.out], rfl⟩
          · have tk1 : (x.op.kind == 1) = false := by simpa using e1
            by_cases e2 : x.op.kind = 2
            · have tk2 : (x.op.kind == 2) = true := by simpa using e2
              by_cases e3 : m' = 0
              · have tm : ((m' : Int) == 0) = true := by simp [e3]
                have HP := Lib.hid (show plB x.op m' = true by simp [plB, e2, e3])
                clear e1 e2 e3
                go_wp2_with fail
                go_meet
                exact ⟨by rw [HP.out], rfl⟩
              · have tm : ((m' : Int) == 0) = false := by simp [e3]
                have HP := Lib.hid (show plB x.op m' = false by simp [plB, e2, e3])
                clear e1 e2 e3
                go_wp2_with fail
                go_meet
                exact ⟨by rw [HP.out], rfl⟩
            · have tk2 : (x.op.kind == 2) = false := by simpa using e2
              have HP := Lib.hid (show plB x.op m' = false by simp [plB, e1, e2])
              clear e1 e2
              go_wp2_with fail
              go_meet
              exact ⟨by rw [HP.out], rfl⟩
        case rest =>
          obtain ⟨rfl, rfl⟩ := hcut
          generalize plB x.op m' = pb at *
          go_upto_region 12 with fail
          go_cut [98] (fun v wc => v = .bool (!goesB u x.op) ∧ w3 = wc)
          case first =>
            cases pb with
            | false =>
              have HG := Lib.hid (show (!goesB u x.op) = true by rw [hgF rfl]; rfl)
              clear hgF hgT
              go_wp2_with fail
              go_meet
              exact ⟨by rw [HG.out], rfl⟩
            | true =>
              have hpl := hgT rfl
              by_cases hku : x.op.kind = u.kind
              · have tku : (x.op.kind != u.kind) = false := by simpa using hku
                by_cases hof : x.op.off < 0
                · have HG := Lib.hid (show (!goesB u x.op) = true by rw [goes_no (w := u) (o := x.op) (.inr (.inl hof))]; rfl)
                  clear hgF hgT
                  go_wp2_with fail
                  go_meet
                  exact ⟨by rw [HG.out], rfl⟩
                by_cases hof2 : 1024 < x.op.off
                · have HG := Lib.hid (show (!goesB u x.op) = true by rw [goes_no (w := u) (o := x.op) (.inr (.inr (.inl hof2)))]; rfl)
                  clear hgF hgT
                  go_wp2_with fail
                  go_meet
                  exact ⟨by rw [HG.out], rfl⟩
                by_cases hat : x.op.off = u.off + u.cnt
                · have tat : (x.op.off != u.off + u.cnt) = false := by simpa using hat
                  by_cases hc1 : x.op.cnt < 1
                  · have HG := Lib.hid (show (!goesB u x.op) = true by rw [goes_no (w := u) (o := x.op) (.inr (.inr (.inr (.inr (.inr (.inl hc1))))))]; rfl)
                    clear hgF hgT
                    go_wp2_with fail
                    go_meet
                    exact ⟨by rw [HG.out], rfl⟩
                  by_cases hc2 : 1024 - u.cnt < x.op.cnt
                  · have HG := Lib.hid (show (!goesB u x.op) = true by rw [goes_no (w := u) (o := x.op) (.inr (.inr (.inr (.inr (.inr (.inr hc2))))))]; rfl)
                    clear hgF hgT
                    go_wp2_with fail
                    go_meet
                    exact ⟨by rw [HG.out], rfl⟩
                  have HG := Lib.hid (show (!goesB u x.op) = false by rw [goes_of ⟨hku, by omega, by omega, hat, hpl, by omega, by omega⟩]; rfl)
                  clear hgF hgT hku hat
                  go_wp2_with fail
                  go_meet
                  exact ⟨by rw [HG.out], rfl⟩
                · have tat : (x.op.off != u.off + u.cnt) = true := by simpa using hat
                  have HG := Lib.hid (show (!goesB u x.op) = true by rw [goes_no (w := u) (o := x.op) (.inr (.inr (.inr (.inl hat))))]; rfl)
                  clear hgF hgT
                  go_wp2_with fail
                  go_meet
                  exact ⟨by rw [HG.out], rfl⟩
              · have tku : (x.op.kind != u.kind) = true := by simpa using hku
                have HG := Lib.hid (show (!goesB u x.op) = true by rw [goes_no (w := u) (o := x.op) (.inl hku)]; rfl)
                clear hgF hgT
                go_wp2_with fail
                go_meet
                exact ⟨by rw [HG.out], rfl⟩
          case rest =>
            obtain ⟨rfl, rfl⟩ := hcut
            clear hgF hgT
            cases hg : goesB u x.op with
            | false =>
              rw [go_no hg] at hL
              have HA := Lib.hid hL.symm
              have hz3 := hz1.keep hb3
              obtain ⟨z0, z1, z2, z3, y0, y1, y2, y3⟩ := cells4 hz3
              clear hL hg
              go_wp2
              refine bodyPost_ret (results_w (q := w.heap.size) rfl rfl (blk_set4 hz3 _ _ _ _)) rfl ?_
              exact whole_ans HA.out rfl (own_nil _ _ _ _) (below_set4 hB3 (Nat.le_refl _) (Nat.le_refl _) _ _ _ _)
            | true =>
              rw [go_yes hg] at hL
              obtain ⟨hMn, hcn⟩ := add_goes hM hg
              obtain ⟨-, ga, gb, gc, -, gd, ge⟩ := goes_is hg
              have hnl := hMn.len
              have hal := add_len u x.op
              have hxl := hdx4.len
              have HL := Lib.hid hL
              have Hcn := Lib.hid hcn
              have hz3 := hz1.keep hb3
              have hs3 : wr.heap.size + 1 ≤ w3.heap.size := by have := hb3.size; simpa using this
              obtain ⟨l0, l1, l2⟩ : 0 ≤ u.len + x.op.len ∧ u.len + x.op.len ≤ 1024 ∧ u.data.length + m' ≤ 1024 := ⟨hnl.1, hnl.2.1, by omega⟩
              have hwl : IntKind.i64.wrap (u.len + x.op.len) = u.len + x.op.len := by rw [IntKind.wrap_i64]; omega
              have hwa : IntKind.i64.wrap (u.off + u.cnt + x.op.cnt) = u.off + (addO u x.op).cnt := by rw [Hcn.out, IntKind.wrap_i64]; omega
              have hwn : IntKind.i64.wrap (u.cnt + x.op.cnt) = (addO u x.op).cnt := by rw [Hcn.out, IntKind.wrap_i64]; omega
              obtain ⟨q0, q1, q2, q3, f0, f1, f2, f3⟩ := cells4 hk3
              have hXn : X' = none → m' = 0 := fun e => (hdx4.nil e).1
              have hmx : u.data.length + m' ≤ maxLen := by unfold maxLen; omega
              have hby : (u.data.length + m') * 8 ≤ 140737488355328 := by omega
              have hbz : w.heap.size + 2 ≤ w3.heap.size := by omega
              have Hxl := Lib.hid hxl
              have hlow' : ∀ z ∈ (addO u x.op).data, z < 18446744073709551616 := fun z hz => by
                rcases List.mem_append.1 hz with hz | hz
                · exact hlow z hz
                · exact dx.ns.2 z hz
              clear hL hg hal hxl hnl hk1 hz1 hcn gc
              go_wp2_with (first
                | (at_builtin
                   go_must (refine wpList_app _ rfl (.tmp 107) (.tmp 109) _ rfl (w.heap.size + 2) 64 i1 _ 1 8 Try.underlying25 hi1 hy0 hy1 Hy.out rfl Nat.one_pos _ _ _ rfl hO3 X' m' c' (nvs x.op.data) rfl hXn hdx4.ns.1 (nvs_one _) hmx hby hbz ?_)
                   intro v6 w6 hown6 hg6 hat6
                   have hk6 := hk3.grown hg6 (fun e => by have := (hO3.lt _ e.symm).1; omega)
                   have hz6 := hz3.grown hg6 (fun e => by have := (hO3.lt _ e.symm).1; omega)
                   have hc6 := hc3.grown hg6 (fun e => hcne e.symm rfl)
                   have hB6 : Below w.heap.size w w6 := hB3.grown hg6 hB3.size (fun j hj => Nat.le_trans (by omega) (hO3.lt j hj).1)
                   have hs6 := hg6.size
                   obtain ⟨g0, g1, g2, g3, e0, e1, e2, e3⟩ := cells4 hk6
                   obtain ⟨j0, j1, j2, j3, -, -, -, -⟩ := cells4 hc6
                   obtain ⟨V6, c6, rfl, hc6b, hm6, ha6⟩ := own_form hown6
                   have hk66 : Blk (w6.setCell ⟨w.heap.size + 1, 3, none⟩ (.slice V6 (u.data.length + m') c6)) (w.heap.size + 1) 27 #[.int .i64 u.kind, .int .i64 u.off, .int .i64 u.len, .slice V6 (u.data.length + m') c6] := by simpa using hk6.setCell 3 (.slice V6 (u.data.length + m') c6)
                   have hc66 := hc6.grown (grown_setCell w6 ⟨w.heap.size + 1, 3, none⟩ (.slice V6 (u.data.length + m') c6)) (fun e => by injection e with e; simp at e; omega)
                   obtain ⟨h0', h1', h2', h3', i0', i1', i2', i3'⟩ := cells4 hk66
                   obtain ⟨k0', k1', k2', k3', -, -, -, -⟩ := cells4 hc66)
                | fail)
              have hgr6 := grown_setCell w6 ⟨w.heap.size + 1, 3, none⟩ (.slice V6 (u.data.length + m') c6)
              have hgr7 := grown_setCell (w6.setCell ⟨w.heap.size + 1, 3, none⟩ (.slice V6 (u.data.length + m') c6)) ⟨w.heap.size + 1, 2, none⟩ (.int .i64 (u.len + x.op.len))
              have hk7 : Blk ((w6.setCell ⟨w.heap.size + 1, 3, none⟩ (.slice V6 (u.data.length + m') c6)).setCell ⟨w.heap.size + 1, 2, none⟩ (.int .i64 (u.len + x.op.len))) (w.heap.size + 1) 27 #[.int .i64 (addO u x.op).kind, .int .i64 (addO u x.op).off, .int .i64 (addO u x.op).len, .slice V6 (u.data.length + m') c6] := by simpa [addO] using hk66.setCell 2 (.int .i64 (u.len + x.op.len))
              have hz7 := (hz6.grown hgr6 (fun e => by injection e with e; simp at e)).grown hgr7 (fun e => by injection e with e; simp at e)
              have hO7 : ((w6.setCell ⟨w.heap.size + 1, 3, none⟩ (.slice V6 (u.data.length + m') c6)).setCell ⟨w.heap.size + 1, 2, none⟩ (.int .i64 (u.len + x.op.len))).ownsRow (w.heap.size + 2) 64 1 (.slice V6 (u.data.length + m') c6) (addO u x.op).data.length (nvs (addO u x.op).data) := by
                rw [add_len, ← Hxl.out, show (addO u x.op).data = u.data ++ x.op.data from rfl, nvs_app]
                exact own_grown (own_grown hown6 hgr6 (fun j hj e => by injection e with e; have := (hown6.lt j hj).1; simp at e; omega)) hgr7 (fun j hj e => by injection e with e; have := (hown6.lt j hj).1; simp at e; omega)
              have hB7 : Below w.heap.size w ((w6.setCell ⟨w.heap.size + 1, 3, none⟩ (.slice V6 (u.data.length + m') c6)).setCell ⟨w.heap.size + 1, 2, none⟩ (.int .i64 (u.len + x.op.len))) := (hB6.setCell (by simp) _).setCell (by simp) _
              have hs7 : w.heap.size + 2 ≤ ((w6.setCell ⟨w.heap.size + 1, 3, none⟩ (.slice V6 (u.data.length + m') c6)).setCell ⟨w.heap.size + 1, 2, none⟩ (.int .i64 (u.len + x.op.len))).heap.size := by simp; omega
              go_roundw
              case rel => exact ⟨i + 1, addO u x.op, _, by omega, by go_num, rfl, rfl, hMn, huk, huo, hlow', hk7, hz7, hO7, HL.out, hB7, hs7⟩
              case measure => simp [intOf]; omega
      · have hin : ¬ (i : Int) < (n : Int) := by omega
        rw [List.drop_of_length_le (by have := Hl.out; omega)] at hL
        have HL := Lib.hid hL.symm
        obtain ⟨d0, d1, d2, d3, -, -, -, -⟩ := cells4 hkr
        obtain ⟨z0, z1, z2, z3, y0, y1, y2, y3⟩ := cells4 hzr
        clear hL
        go_wp2
        refine bodyPost_ret (results_w (q := w.heap.size) rfl rfl (blk_set4 hzr _ _ _ _)) rfl ?_
        refine whole_ans HL.out rfl ?_ (below_set4 hb (Nat.le_refl _) (Nat.le_refl _) _ _ _ _)
        exact (own_grown hO (grown4 wr w.heap.size _ _ _ _) (fun j hj e => by injection e with e; have := (hO.lt j hj).1; omega)).mono (by omega)
end
end Pla
end Go.Proofs.Ytdcggnfplfgcnaa
