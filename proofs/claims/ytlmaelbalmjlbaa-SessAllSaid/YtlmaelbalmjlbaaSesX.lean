/- XSesX, XSesY. -/
import Derived.Test.YtlmaelbalmjlbaaSesW
import Derived.Test.YtlmaelbalmjlbaaNetJ
set_option linter.all false
namespace Go.Proofs.Ytlmaelbalmjlbaa
open Go.RowKit
namespace Ses
open Net
theorem putAll_take (b : List Gr) (ms : List Ms) {i : Nat} {m : Ms} (h : ms[i]? = some m) : putAll b (ms.take (i + 1)) = putS (putAll b (ms.take i)) [packL m] := by
  rw [take_snoc h]
  simp [putAll]
theorem bss_one2 {w : World} {m : Nat} {t : TypeId} {X : Option Addr} {n c : Nat} {d : List UInt8} (h : Blk w m t #[.slice X n c]) (hb : Bs w X n d) (hnc : n ≤ c) (hc : c ≤ 9223372036854775807) : Bss w (some ⟨m, 0, none⟩) 1 [d] := bss_one h hb hnc hc
theorem upd_upd {α : Type} (f : Bool → α) (s : Bool) (x y : α) : upd (upd f s x) s y = upd f s y := funext fun t => by
  rcases side s t with rfl | rfl
  · rw [upd_same, upd_same]
  · rw [upd_not, upd_not, upd_not]
/-- What a call on the two leaves. -/
def WdoA (B wb : Nat) (e : Bool → Nat) (V : Wd) (w w' : World) (r : Ending) : Prop := ∃ bv sv, r = .returned (.tuple #[]) ∧ WmX w' B wb e bv sv V ∧ Below B w w'
section
variable (w : World)
set_option maxRecDepth 100000 in
set_option maxHeartbeats 8000000 in
theorem wstep_ (B wb : Nat) (e : Bool → Nat) (bv sv : Bool → Value) (W : Wd) (h : WmX w B wb e bv sv W) {k : Nat} (hI : Inv W k) (hk : k ≤ 2000) (s : Bool) :
    Calls Try.prog 29 #[.pointer (some ⟨wb, 0, none⟩), .int .i64 ((so s : Nat) : Int)] w fun r w' => WdoA B wb e (wStep W s) w w' r := by
  have hMs := (hI.sd s).msgs (id_ok s) (id_ok _) hk (by have := hI.low (!s); omega)
  have hle : (W.e s).l.length ≤ 2000 := by rw [(hI.sd s).l]; have := (hI.sd s).len; omega
  have hce : (W.e s).c ≤ 2000 := by rw [(hI.sd s).ec]; have := hI.low (!s); omega
  have HS := Lib.hid (show wStep W s = { W with e := upd W.e s (stpS (W.e s)), b := upd W.b s (putAll (W.b s) (stpL (W.e s))) } by
    unfold wStep
    rw [show ((stpL (W.e s)).any fun m => decide (packE m ≠ 0)) = false by
      rw [List.any_eq_false]
      intro m hm
      rw [(pack_yes (hMs m hm).2).1]
      simp, Bool.or_false])
  have HM := Lib.hid hMs
  have hbad := hI.ok
  have c0 := h.cE s
  have hj2 := so_lt s
  have hS := step_ w (e s) _ (W.e s) (h.ends s) (fun k hk => hk.2.2.2) (by omega) (by omega)
  have H0 := Lib.hid h
  obtain ⟨j, hj⟩ : ∃ j, so s = j := ⟨_, rfl⟩
  have Hj := Lib.hid hj
  rw [hj] at c0 hj2 ⊢
  have hji : (j : Int) < 2 := by omega
  have hj0 : (0 : Int) ≤ (j : Int) := by omega
  clear hMs h hI hj
  go_enter Try.func29, Try.ntmps29
  go_wp2_with fail
  refine hS.mono ?_
  rintro r w1 ⟨v, P, rfl, hP, hPl, hE1, hF1⟩
  have h1 := H0.out.endTo s hF1 (hE1.sub (fun k hk _ => .inl hk) (fun q => q.elim (fun q => q.2.1 s rfl) (by have := H0.out.lt.2 s; omega)))
  have hB1 : Below B w w1 := H0.out.below hF1 (fun k q => .inr (.inl ⟨s, q⟩))
  have hs1 := hF1.size
  have hwl := H0.out.lt.1
  have hrow := hP.row
  obtain ⟨A, c, hv, hc, hcm, hcn⟩ := own_form hrow
  obtain ⟨n, hn⟩ : ∃ n, P.length = n := ⟨_, rfl⟩
  have Hn := Lib.hid hn
  rw [hn] at hv hc hcn
  subst hv
  have HPl := Lib.hid hPl
  have hn9 : n ≤ 9 := by
    have := congrArg List.length HPl.out
    rw [List.length_map, hn] at this
    rw [this]
    unfold stpL
    split
    · split <;> simp
    · rw [openL_length]; have := (H0.out.ends s).ok.2.2; omega
  unfold maxLen at hcm
  clear hS hE1 hF1 hn hPl hrow c0
  go_wp2_with fail
  go_loopw [16] (fun iv wr => ∃ (i : Nat) (bv' : Bool → Value), i ≤ n ∧ iv = .int .i64 (i : Int) ∧ WmX wr B wb e bv' sv { W with e := upd W.e s (stpS (W.e s)), b := upd W.b s (putAll (W.b s) ((stpL (W.e s)).take i)) } ∧ Prw wr w.heap.size (.slice A n c) P ∧ Below B w wr ∧ w1.heap.size ≤ wr.heap.size) (fun iv _ => n - (intOf iv).toNat)
  case atStart => exact ⟨0, bv, Nat.zero_le _, rfl, by
    have : upd W.b s (putAll (W.b s) ((stpL (W.e s)).take 0)) = W.b := by rw [List.take_zero]; exact upd_self _ _
    rw [this]; exact h1, hP, hB1, Nat.le_refl _⟩
  case round =>
    obtain ⟨i, bv', hi, rfl, hW, hPr, hB, hsz⟩ := hrel
    obtain ⟨Wi, hWi⟩ : ∃ Wi, ({ W with e := upd W.e s (stpS (W.e s)), b := upd W.b s (putAll (W.b s) ((stpL (W.e s)).take i)) } : Wd) = Wi := ⟨_, rfl⟩
    rw [hWi] at hW
    have hWb : Wi.bad = false := by rw [← hWi]; exact hbad
    have hWs : Wi.b s = putAll (W.b s) ((stpL (W.e s)).take i) := by rw [← hWi]; exact upd_same _ _ _
    have HWi := Lib.hid hWi
    clear hWi
    have hi0 : (0 : Int) ≤ (i : Int) := by omega
    by_cases hlt : i < n
    · have hil : (i : Int) < (n : Int) := by omega
      obtain ⟨g, X, p, d, rfl, -, hM, hX, hg, hgl, -, d0, d1, d2, d3, d4, d5, d6⟩ := hPr.get (k := i) (by have := Hn.out; omega)
      have hip : i < P.length := by have := Hn.out; omega
      have hmi : (stpL (W.e s))[i]? = some P[i].1 := by rw [← HPl.out, List.getElem?_map, List.getElem?_eq_getElem]; rfl
      have hmay := (HM.out _ (List.mem_of_getElem? hmi)).2
      obtain ⟨m, hm⟩ : ∃ m, P[i].1 = m := ⟨_, rfl⟩
      rw [hm] at hM d0 d1 d2 d3 d4 d5 hmi hmay
      have HT := Lib.hid (putAll_take (W.b s) _ hmi)
      have hma : Blk (wr.alloc (.cells (ma m (.slice X p d)) 36)) wr.heap.size 36 (ma m (.slice X p d)) := Blk.new wr _ _ rfl
      have hba : Below wr.heap.size wr (wr.alloc (.cells (ma m (.slice X p d)) 36)) := (Below.refl _ _).alloc (Nat.le_refl _) _
      have hsa : (wr.alloc (.cells (ma m (.slice X p d)) 36)).heap.size = wr.heap.size + 1 := by simp
      have hpk := rpack_ (wr.alloc (.cells (ma m (.slice X p d)) 36)) m X p d (hM.below hba)
      rw [(pack_yes hmay).1] at hpk
      have Hpl := Lib.hid (show (packL m).length ≤ 1300 by rw [(pack_yes hmay).2, msgB_length]; have := hmay.2.2.2.2.2.2; omega)
      obtain ⟨xb, hxb⟩ : ∃ xb, packL m = xb := ⟨_, rfl⟩
      rw [hxb] at hpk HT Hpl
      obtain ⟨xn, hxn⟩ : ∃ xn, xb.length = xn := ⟨_, rfl⟩
      have Hxn := Lib.hid hxn
      rw [hxn] at hpk Hpl
      have hWa := hW.keep hba
      have hPa := hPr.keep hba
      have hBa : Below B w (wr.alloc (.cells (ma m (.slice X p d)) 36)) := hB.trans (hba.mono (by have := H0.out.low.1; omega))
      clear hm hmi hM hW hPr hB hba hxb hxn
      go_wp2_with fail
      obtain ⟨wa2, hwa⟩ : ∃ w2, wr.alloc (.cells (ma m (.slice X p d)) 36) = w2 := ⟨_, rfl⟩
      rw [hwa] at hma hsa hpk hWa hPa hBa ⊢
      refine hpk.mono ?_
      rintro r w5 ⟨v5, rfl, hown5, hb5⟩
      obtain ⟨A5, c5, rfl, hc5, hm5, ha5⟩ := own_form hown5
      unfold maxLen at hm5
      have hW5 := hWa.keep hb5
      have hP5 := hPa.keep hb5
      have hB5 := hBa.trans (hb5.mono (by have := H0.out.low.1; omega))
      have hs5 := hb5.size
      have c8 := hW5.cX
      have f8 := hW5.blk.free 8
      rw [hWb] at c8
      clear d0 d1 d2 d3 d4 d5 d6 hma hWa hPa hBa hb5 hpk hwa
      have h6 := hW5.badSame hWb
      have hF6 : Fu (fun k => k = wb) w5 (w5.setCell ⟨wb, 8, none⟩ (.bool false)) := fu_set1 (Fu.refl _ _) 8 _
      have hwb5 : wb < wa2.heap.size := by omega
      have hx6 := own_fu hown5 hF6 (fun g hg q => by have := (hown5.lt g hg).1; omega)
      obtain ⟨w6, hw6⟩ : ∃ w6, w5.setCell ⟨wb, 8, none⟩ (.bool false) = w6 := ⟨_, rfl⟩
      have hs6 : w6.heap.size = w5.heap.size := by rw [← hw6]; simp [World.setCell]
      rw [hw6] at h6 hF6 hx6
      obtain ⟨gq, hgq⟩ : ∃ g, w5.heap.size = g := ⟨_, rfl⟩
      have hm7 : Blk (w6.alloc (.cells #[.slice A5 xn c5] 34)) gq 34 #[.slice A5 xn c5] := Blk.new w6 _ _ (by omega)
      have hb7 : Below w6.heap.size w6 (w6.alloc (.cells #[.slice A5 xn c5] 34)) := (Below.refl _ _).alloc (Nat.le_refl _) _
      have hs7 : (w6.alloc (.cells #[.slice A5 xn c5] 34)).heap.size = w6.heap.size + 1 := by simp
      obtain ⟨w7, hw7⟩ : ∃ w7, w6.alloc (.cells #[.slice A5 xn c5] 34) = w7 := ⟨_, rfl⟩
      rw [hw7] at hm7 hb7 hs7
      have h7 := h6.keep hb7
      have hx7 := own_keep hx6 hb7
      have hl7 := hWs
      have hbag := h7.bag s
      have hfew : (putAll (W.b s) ((stpL (W.e s)).take i)).length ≤ 256 := by
        obtain ⟨A', n', c', L', e1, h2, h3⟩ := h7.bags s
        rw [hl7] at h3
        rw [h3, List.length_map, ← h2.len]; exact h2.few
      have hPt := rput_ w7 wb 68 (2 + so s) _ (bhole s) _ _ hbag (fun k hk => hk.2.2.2) (fun q => q.1 rfl) (some ⟨gq, 0, none⟩) 1 1 [xb] (fun w1 hf => by
        refine bss_one (blk_fu hm7 hf (by omega)) (bs_own (own_fu hx7 hf (fun g hg q => by have := (hx6.lt g hg).1; omega))) hc5 (by omega)) (Nat.le_refl _) (by omega) (by have := Hpl.out; have := Hxn.out; simp; omega) (by rw [hl7]; exact hfew)
      rw [hl7, Hj.out] at hPt
      have hF7 : Fu (fun k => k = wb) w5 w7 := hF6.then (Fu.ofBelow (S := fun _ => False) hb7) (fun j q => q.elim)
      have Hw := Lib.hid (show (w5.setCell ⟨wb, 8, none⟩ (.bool false)).alloc (.cells #[.slice A5 xn c5] 34) = w7 by rw [hw6, hw7])
      clear hW5 h6 hx6 hx7 hm7 hb7 hF6 hbag hfew hw6 hw7 hown5
      go_wp2_with fail
      rw [Hw.out]
      refine hPt.mono ?_
      rintro r w8 ⟨rfl, hR8, hF8⟩
      rw [← Hj.out] at hR8
      obtain ⟨bx, h8⟩ := h7.bagTo s hF8 hR8
      have hF58 := hF7.then hF8 (fun j q => .inl q)
      have hP8 := hP5.fu hF58 (fun k hk _ q => by omega)
      have hB8 := hB5.trans (hF58.below (B := B) (by have := H0.out.low.1; omega) (fun k q => by have := H0.out.low.1; omega))
      have hs8 := hF58.size
      rw [show wBag Wi s (putS (putAll (W.b s) ((stpL (W.e s)).take i)) [xb]) = { W with e := upd W.e s (stpS (W.e s)), b := upd W.b s (putAll (W.b s) ((stpL (W.e s)).take (i + 1))) } by
        rw [HT.out, ← HWi.out]
        unfold wBag
        simp only [upd_upd]] at h8
      clear hPt h7 hF7 hR8 hF8 hP5 hB5 c8 f8 hF58
      go_wp2
      exact ⟨⟨i + 1, _, by omega, by go_num, h8, hP8, hB8, by omega⟩, by simp [intOf]; omega⟩
    · have hin : ¬ (i : Int) < (n : Int) := by omega
      have hin2 : i = n := by omega
      have hfin : Wi = wStep W s := by
        rw [HS.out, ← HWi.out, List.take_of_length_le (by rw [← HPl.out, List.length_map, Hn.out]; omega)]
      rw [hfin] at hW
      clear hWb hWs HWi hfin
      go_wp2
      go_end0
      exact ⟨bv', sv, rfl, hW, hB⟩
end
end Ses
end Go.Proofs.Ytlmaelbalmjlbaa

set_option linter.all false
namespace Go.Proofs.Ytlmaelbalmjlbaa
open Go.RowKit
namespace Ses
open Net
theorem fu_cell {S : Nat → Prop} {w w' : World} (hf : Fu S w w') {p : Addr} {u : Value} (hc : w.cell? p = some u) (hs : ¬ S p.block) : w'.cell? p = some u := by
  have hb := hf.block p.block (cell_lt hc) hs
  unfold World.cell? at hc ⊢
  rw [hb]
  exact hc
theorem WmX.bset {w w' : World} {B wb : Nat} {e : Bool → Nat} {bv sv : Bool → Value} {W : Wd} (h : WmX w B wb e bv sv W) (hb : Below B w w') (j : Nat) (u : Value) : Below B w (w'.setCell ⟨wb, j, none⟩ u) :=
  hb.grown (grown_setCell _ _ _) (by have := h.low.1; have := h.lt.1; have := hb.size; omega) (fun k q => by injection q with q; have := h.low.1; simp only at q; omega)
theorem WmX.far {w : World} {B wb : Nat} {e : Bool → Nat} {bv sv : Bool → Value} {W : Wd} (h : WmX w B wb e bv sv W) (s : Bool) (i : Int) : (takG (W.b s) i).b.length ≤ 140737488351300 := by
  by_cases hi : hasB (W.b s) i = true
  · rw [(take_of hi).2.1]
    obtain ⟨A, n, c, L, _, h1, h2⟩ := h.bags s
    have hm := get_mem hi
    rw [h2] at hm ⊢
    obtain ⟨p, hp, e⟩ := List.mem_map.1 hm
    rw [← e]
    obtain ⟨X, m, d, _, hb, _, _, h3, _⟩ := h1.data p hp
    rw [← hb.len]; exact h3
  · rw [(take_no (by simpa using hi)).2.1]; simp [zG]
section
variable (w : World)
set_option maxRecDepth 100000 in
set_option maxHeartbeats 8000000 in
theorem wdel_ (B wb : Nat) (e : Bool → Nat) (bv sv : Bool → Value) (W : Wd) (h : WmX w B wb e bv sv W) {k : Nat} (hI : Inv W k) (hk : k ≤ 2000) (s : Bool) (i : Int) :
    Calls Try.prog 28 #[.pointer (some ⟨wb, 0, none⟩), .int .i64 ((so s : Nat) : Int), .int .i64 i] w fun r w' => WdoA B wb e (wDel W s i) w w' r := by
  have hT := rtake_ w wb 68 (2 + so s) _ (bhole s) _ _ (h.bag s) (fun k hk => hk.2.2.2) (fun q => q.1 rfl) i
  have H0 := Lib.hid h
  have HI := Lib.hid hI
  have hj2 := so_lt s
  have hwl := h.lt.1
  obtain ⟨j, hj⟩ : ∃ j, so s = j := ⟨_, rfl⟩
  have Hj := Lib.hid hj
  have hjn : so (!s) = 1 - j := by rw [so_not, hj]
  obtain ⟨j2, hjj⟩ : ∃ j2, so (!s) = j2 := ⟨_, rfl⟩
  have Hj2 := Lib.hid hjj
  rw [hjj] at hjn
  have hj22 : j2 < 2 := by omega
  have hji : (j : Int) < 2 := by omega
  have hj0 : (0 : Int) ≤ (j : Int) := by omega
  have hj2i : (j2 : Int) < 2 := by omega
  have hj20 : (0 : Int) ≤ (j2 : Int) := by omega
  have Hwj := Lib.hid (show (1 : Int) - (j : Int) = (j2 : Int) by omega)
  rw [hj] at hT hj2 ⊢
  clear h hI hj hjj hjn
  go_enter Try.func28, Try.ntmps28
  go_wp2_with fail
  refine hT.mono ?_
  rintro r w1 ⟨X, m, d, rfl, hb, hmd, hd, hXm, hVX, hR, hF⟩
  rw [← Hj.out] at hR
  obtain ⟨b1, h1⟩ := H0.out.bagTo s hF hR
  have hB1 : Below B w w1 := H0.out.below hF (fun k q => .inl q)
  have hs1 := hF.size
  have hi1 := inv_bag HI.out s (b := takS (W.b s) i) (fun P hP => good_take hP i)
  have HD := Lib.hid (show wDel W s i = if takE (W.b s) i = 0 ∧ unE (takG (W.b s) i).b = 0 then wRecv (wBag W s (takS (W.b s) i)) s (unV (takG (W.b s) i).b) else wBag W s (takS (W.b s) i) from rfl)
  have Hm := Lib.hid (show takE (W.b s) i = 0 ∧ unE (takG (W.b s) i).b = 0 → Msg (idN s) (idN (!s)) (W.c (!s)) (W.s s) (unV (takG (W.b s) i).b) from fun hu => by
    have hi : hasB (W.b s) i = true := by
      by_cases e : hasB (W.b s) i = true
      · exact e
      · have := hu.1; unfold takE at this; rw [if_neg e] at this; cases this
    obtain ⟨P, g1, g2⟩ := (HI.out.sd s).bag
    have hg : Net.Good P (takG (W.b s) i) := by rw [(take_of hi).2.1]; exact g1 _ (get_mem hi)
    cases hs : (takG (W.b s) i).s with
    | true => have := hg.bad hs; omega
    | false => exact g2 _ (hg.un hs).2)
  obtain ⟨W1, hW1⟩ : ∃ W1, wBag W s (takS (W.b s) i) = W1 := ⟨_, rfl⟩
  rw [hW1] at h1 hi1 HD
  have HW1 := Lib.hid hW1
  obtain ⟨tk, htk⟩ : ∃ t, takE (W.b s) i = t := ⟨_, rfl⟩
  obtain ⟨gr, hgr⟩ : ∃ g, takG (W.b s) i = g := ⟨_, rfl⟩
  have Hgr := hgr
  rw [htk, hgr] at HD Hm ⊢
  rw [hgr] at hb
  have Hml := Lib.hid hb.len
  have hmf : m ≤ 140737488351300 := by rw [hb.len, ← Hgr]; exact H0.out.far s i
  clear hT hF hR hW1 htk hgr Hgr
  go_wp2_with fail
  refine (runpack_ w1 X m d gr.b hb (fun q => ⟨hXm q, hVX.z q⟩) hmd hd hmf).mono ?_
  rintro r w2 hU
  obtain ⟨Y, n, c, rfl, hM, hown, hb2⟩ := hU.got (by rw [← Hml.out]; exact hmf)
  have h2 := h1.keep hb2
  have hB2 := hB1.trans (hb2.mono (by have := H0.out.low.1; omega))
  have hs2 := hb2.size
  have hYl := fun a (ea : Y = some a) => hown.lt a.block (by rw [ea]; rfl)
  obtain ⟨mg, hmg⟩ : ∃ g, unV gr.b = g := ⟨_, rfl⟩
  obtain ⟨un, hun⟩ : ∃ g, unE gr.b = g := ⟨_, rfl⟩
  rw [hmg, hun] at HD Hm
  rw [hmg] at hM hown
  rw [hmg, hun]
  clear hU hb hmg hun h1 hB1 hb2 hmd hd hXm hVX hmf Hml
  by_cases hok : tk = 0 ∧ un = 0
  · obtain ⟨rfl, rfl⟩ := hok
    have HD2 := Lib.hid (show wDel W s i = wRecv W1 s mg by rw [HD.out, if_pos ⟨rfl, rfl⟩])
    have HM := Lib.hid (Hm.out ⟨rfl, rfl⟩)
    have hma : Blk (w2.alloc (.cells (ma mg (.slice Y n c)) 36)) w2.heap.size 36 (ma mg (.slice Y n c)) := Blk.new w2 _ _ rfl
    have hba : Below w2.heap.size w2 (w2.alloc (.cells (ma mg (.slice Y n c)) 36)) := (Below.refl _ _).alloc (Nat.le_refl _) _
    have h3 := h2.keep hba
    have hM3 := hM.below hba
    have hB3 := hB2.trans (hba.mono (by have := H0.out.low.1; omega))
    have hs3 : (w2.alloc (.cells (ma mg (.slice Y n c)) 36)).heap.size = w2.heap.size + 1 := by simp
    go_wp2_with fail
    obtain ⟨w3, hw3⟩ : ∃ w3, w2.alloc (.cells (ma mg (.slice Y n c)) 36) = w3 := ⟨_, rfl⟩
    rw [hw3] at hma h3 hM3 hB3 hs3 ⊢
    obtain ⟨gm, hgm⟩ : ∃ g, w2.heap.size = g := ⟨_, rfl⟩
    rw [hgm] at hma hs3 ⊢
    have hgl : gm < w3.heap.size := by omega
    have hcE := h3.cE (!s)
    rw [Hj2.out] at hcE
    obtain ⟨d0, d1, d2, d3, d4, d5, d6⟩ := ma_blk hma
    have hwr := wrn_ok (hi1.sd s) (hi1.at2 s) (by rw [← HW1.out]; exact HM.out)
    have HWR := Lib.hid hwr
    have hE := h3.ends (!s)
    have h2W := hi1.at2 s
    have hel : (W1.e (!s)).l.length ≤ 2000 := by rw [h2W.l]; have := h2W.len; omega
    have hec : (W1.e (!s)).c ≤ 2000 := by rw [h2W.ec]; have := hi1.low s; omega
    have hRv : ∀ q, Calls Try.prog 17 #[.pointer (some ⟨e (!s), 0, none⟩), .agg (ma mg (.slice Y n c))] (w3.drewN q) fun r w' => RcvA (e (!s)) (Nm w3 wb e sv) (W1.e (!s)) mg (w3.drewN q) w' r := fun q =>
      recv_ (w3.drewN q) (e (!s)) _ (W1.e (!s)) (hE.drewN q) (fun k hk => hk.2.2.2) (by omega) (by omega) mg Y n c (mdt_drewN hM3 q) (fun a ea _ q => by have := (hYl a ea).1; have := H0.out.lt.2 (!s); omega)
    have hlw : wb < w3.heap.size := by omega
    have H3 := Lib.hid h3
    have hgn : gm ≠ e (!s) := by have := H0.out.lt.2 (!s); omega
    have hwn : wb ≠ e (!s) := fun q => H0.out.new (!s) q.symm
    have hw1j := Hwj.out
    have hwj : IntKind.i64.wrap (j2 : Int) = (j2 : Int) := by rw [IntKind.wrap_i64]; omega
    clear hw3 h2 hM hB2 hown hba hwr h2W hgm h3
    go_wp2_with fail
    go_region_held3 (fun w2 => w2.cell? ⟨wb, j2, none⟩ = some (.pointer (some ⟨e (!s), 0, none⟩)) ∧ w2.cell? ⟨gm, 0, none⟩ = some (.int .i64 mg.fr) ∧ w2.cell? ⟨gm, 1, none⟩ = some (.int .i64 mg.to) ∧ w2.cell? ⟨gm, 2, none⟩ = some (.int .i64 mg.k) ∧ w2.cell? ⟨gm, 3, none⟩ = some (.int .i64 mg.ep) ∧ w2.cell? ⟨gm, 4, none⟩ = some (.int .i64 mg.sq) ∧ w2.cell? ⟨gm, 5, none⟩ = some (.int .i64 mg.ac) ∧ w2.cell? ⟨gm, 6, none⟩ = some (.slice Y n c))
      (first | go_keep | exact ⟨hcE, d0, d1, d2, d3, d4, d5, d6⟩ | exact ⟨fu_cell hF4 (show (w3.drewN _).cell? _ = _ from hcE) hwn, fu_cell hF4 (show (w3.drewN _).cell? _ = _ from d0) hgn, fu_cell hF4 (show (w3.drewN _).cell? _ = _ from d1) hgn, fu_cell hF4 (show (w3.drewN _).cell? _ = _ from d2) hgn, fu_cell hF4 (show (w3.drewN _).cell? _ = _ from d3) hgn, fu_cell hF4 (show (w3.drewN _).cell? _ = _ from d4) hgn, fu_cell hF4 (show (w3.drewN _).cell? _ = _ from d5) hgn, fu_cell hF4 (show (w3.drewN _).cell? _ = _ from d6) hgn⟩)
      (first | (go_at_call 17; refine (hRv _).mono ?_; rintro r w4 ⟨v4, rfl, hown4, hE4, hF4⟩))
    rename_i hheld
    clear hheld hRv hE hma d0 d1 d2 d3 d4 d5 d6 hcE hM3
    have hM1 : Msg (idN s) (idN (!s)) (W1.c (!s)) (W1.s s) mg := by rw [← HW1.out]; exact HM.out
    have hF4' : Fu (fun k => k = e (!s)) w3 w4 := ⟨hF4.os, hF4.tape, hF4.output, hF4.size, hF4.block⟩
    have h4 := H3.out.endTo (!s) hF4' (hE4.sub (U' := fun k => Nm w3 wb e sv k ∨ w3.heap.size ≤ k) (fun k hk _ => hk) (fun q => q.elim nm_e (by have := H3.out.lt.2 (!s); omega)))
    have hB4 := hB3.trans (H3.out.below hF4' (fun k q => .inr (.inl ⟨_, q⟩)))
    have hbadR := (inv_recv hi1 s hM1).ok
    obtain ⟨A4, c4, hv4, hc4, hm4, hn4⟩ := own_form hown4
    obtain ⟨ln, hln⟩ : ∃ n, (rcvD (W1.e (!s)) mg).length = n := ⟨_, rfl⟩
    rw [hln] at hv4 hc4 hn4
    subst hv4
    have hb1f := hi1.ok
    obtain ⟨V4, hV4⟩ : ∃ V, ({ W1 with e := upd W1.e (!s) (rcvS (W1.e (!s)) mg) } : Wd) = V := ⟨_, rfl⟩
    rw [hV4] at h4
    have hV4b : V4.bad = false := by rw [← hV4]; exact hb1f
    have HV4 := Lib.hid hV4
    have c8 := h4.cX
    rw [hV4b] at c8
    have f8 := h4.blk.free 8
    have f64 := h4.blk.free (6 + j)
    have h5 := h4.badSame hV4b
    have c85 := h5.cX
    rw [hV4b] at c85
    have f85 := h5.blk.free 8
    rw [HWR.out]
    have Hln := Lib.hid hln
    clear hV4 hE4 hF4 hF4' hln h4
    by_cases hn : isN (W1.e (!s)) mg = true
    · have hnx := next_is (hi1.at2 s) hM1 hn
      rw [hn]
      obtain ⟨L, hv, hdat, hmap⟩ := h5.sent s
      obtain ⟨A9, c9, hsv, hc9, hm9, hn9⟩ := own_form hv
      unfold maxLen at hm9
      have hcS := h5.cS s
      rw [hsv, Hj.out] at hcS
      have hcC := h5.cC s
      rw [Hj.out] at hcC
      obtain ⟨cn, hcn⟩ : ∃ n, V4.c s = n := ⟨_, rfl⟩
      have hcn1 : W1.c s = cn := by rw [← hcn, ← HV4.out]
      rw [hcn] at hcC
      rw [hcn1] at hnx
      have hVs : V4.s s = W1.s s := by rw [← HV4.out]
      rw [hVs] at hmap
      rw [hsv] at hv
      have hq : Lq (w4.setCell ⟨wb, 8, none⟩ (.bool false)) (fun _ => True) A9 L.length L := Lq.own hv (fun p hp => (hdat p hp).sub (fun _ _ _ => trivial)) (fun _ _ => trivial)
      have hclt : cn < L.length := by
        have := (List.getElem?_eq_some_iff.1 hnx).1
        rw [← hmap, List.length_map] at this; exact this
      have hLn : L.length ≤ 2000 := by
        have := congrArg List.length hmap
        rw [List.length_map] at this
        rw [this]; have := (hi1.sd s).len; omega
      obtain ⟨Ln, hLe⟩ : ∃ n, L.length = n := ⟨_, rfl⟩
      rw [hLe] at hcS hq hclt hc9 hn9 hLn
      obtain ⟨bq, oq, Z, p, cz, d', rfl, hd', hcz, hbz, hpz, hcz2, hp12, hzn, -⟩ := hq.get hclt
      rw [hmap, hnx] at hd'
      injection hd' with hd'
      subst hd'
      have hbx : Bs (w4.setCell ⟨wb, 8, none⟩ (.bool false)) A4 ln mg.d := by
        have h0 := hown4
        rw [Hln.out] at h0
        unfold rcvD at h0
        rw [hn, if_pos rfl] at h0
        have h := bs_own h0
        exact h.grown (grown_setCell w4 ⟨wb, 8, none⟩ (.bool false)) (fun a ea q => by
          injection q with q
          simp only at q
          have h1 := (hown4.lt a.block (by rw [ea]; rfl)).1
          have h2 : w3.heap.size ≤ a.block := h1
          omega)
      have hSm := same_ Z A4 p cz ln c4 _ _ _ hbz hbx (fun h => (hzn h).1) (fun h => (hn4 h).1)
      rw [beq_self_eq_true] at hSm
      have hci : (cn : Int) < (Ln : Int) := by omega
      have hci0 : (0 : Int) ≤ (cn : Int) := by omega
      have hdec : decide (Ln ≤ cn) = false := by simp; omega
      have hdec2 : decide ((Ln : Int) ≤ (cn : Int)) = false := by simp; omega
      have HD3 := Lib.hid (show wDel W s i = { V4 with c := upd V4.c s (cn + 1) } by
        rw [HD2.out]
        have hb := hbadR
        unfold wRecv at hb ⊢
        simp only at hb
        rw [hb]
        have : upd W1.c s (cam (W1.e (!s)) mg (W1.c s)) = upd V4.c s (cn + 1) := by unfold cam; rw [hn, if_pos rfl, hcn1, ← HV4.out]
        rw [this, ← HV4.out, hb1f])
      have h6 := h5.badSame hV4b
      have hB6 := H0.out.bset (H0.out.bset hB4 8 (.bool false)) 8 (.bool false)
      have hsc : (w4.setCell ⟨wb, 8, none⟩ (.bool false)).heap.size = w4.heap.size := by simp [World.setCell]
      clear hnx hmap hdat hv hsv hq hbz hbx hn hbadR hVs hcn1
      go_wp2_with fail
      refine hSm.mono ?_
      rintro r w9 ⟨rfl, rfl⟩
      have k6 := h6.cC s
      rw [Hj.out, hcn] at k6
      have g6 := h6.blk.free (6 + j)
      have hwc : IntKind.i64.wrap ((cn : Int) + 1) = ((cn + 1 : Nat) : Int) := by
        have : cn < 2000 := by omega
        rw [IntKind.wrap_i64]; omega
      have h7 := h6.setC s (cn + 1)
      rw [Hj.out] at h7
      have hB7 := H0.out.bset hB6 (6 + j) (.int .i64 ((cn + 1 : Nat) : Int))
      have H7 := Lib.hid h7
      clear hSm hcS hcz h5 h6 hB6 h7
      go_wp2_with fail
      go_region
      rw [show (cn : Int) + 1 = ((cn + 1 : Nat) : Int) from by omega]
      go_end0
      unfold WdoA
      rw [HD3.out]
      exact ⟨_, sv, rfl, H7.out.keep (below_drew (Below.refl _ _)), below_drew hB7⟩
    · have hnf : isN (W1.e (!s)) mg = false := by simpa using hn
      have hl0 : ln = 0 := by rw [← Hln.out]; unfold rcvD; rw [hnf]; rfl
      subst hl0
      have h6 := h5.badSame hV4b
      have HD3 := Lib.hid (show wDel W s i = V4 by
        rw [HD2.out, ← HV4.out]
        have hb := hbadR
        unfold wRecv at hb ⊢
        simp only at hb
        rw [hb, ← hb1f]
        have : upd W1.c s (cam (W1.e (!s)) mg (W1.c s)) = W1.c := by unfold cam; rw [hnf]; exact upd_self _ _
        rw [this])
      have hB6 := H0.out.bset (H0.out.bset hB4 8 (.bool false)) 8 (.bool false)
      rw [hnf]
      clear hn hnf hbadR h5
      go_wp2
      refine bodyPost_ret (results_none rfl _ _ _) rfl ?_
      unfold WdoA
      rw [HD3.out]
      exact ⟨_, sv, rfl, h6, hB6⟩
  · have HD2 := Lib.hid (show wDel W s i = W1 by rw [HD.out, if_neg hok])
    have hba : Below w2.heap.size w2 (w2.alloc (.cells (ma mg (.slice Y n c)) 36)) := (Below.refl _ _).alloc (Nat.le_refl _) _
    have h3 := h2.keep hba
    have hB3 := hB2.trans (hba.mono (by have := H0.out.low.1; omega))
    by_cases ht : tk = 0
    · have hu : ¬ un = 0 := fun q => hok ⟨ht, q⟩
      have t1 := eq_t ht
      have t1n := ne_f ht
      have t2 := eq_f hu
      have t2n := ne_t hu
      clear ht hu hok
      go_wp2
      refine bodyPost_ret (results_none rfl _ _ _) rfl ?_
      unfold WdoA
      rw [HD2.out]
      exact ⟨_, sv, rfl, h3, hB3⟩
    · have t1 := eq_f ht
      have t1n := ne_t ht
      clear ht hok
      go_wp2
      refine bodyPost_ret (results_none rfl _ _ _) rfl ?_
      unfold WdoA
      rw [HD2.out]
      exact ⟨_, sv, rfl, h3, hB3⟩
end
end Ses
end Go.Proofs.Ytlmaelbalmjlbaa
