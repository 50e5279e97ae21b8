/- Proves ShardDurable of layer 12 (shard), for every input, with no condition: what was flushed, or taken, is there behind a Crash. -/
import Derived.Test.YtfcfffilfmbpeaaShaDu
set_option linter.all false
namespace Go.Proofs.Ytfcfffilfmbpeaa
open Go.ChangeShapes Go.WideShapes Go.ChangeAt Go.RowKit
namespace Sha
open Blo (vol fun_ GotN AnsN Dat FitB words_)

theorem info_u1 : (Try.prog.info? 29).map (fun i => (i.zero, i.size, i.bytes)) = some (some (.slice none 0 0), 1, 24) := by kernel_rfl
theorem u1_info : ∃ i, Try.prog.info? 29 = some i ∧ i.zero = some (.slice none 0 0) ∧ i.size = 1 ∧ i.bytes = 24 := by
  obtain ⟨i, hi, he⟩ := Option.map_eq_some_iff.1 info_u1
  simp only [Prod.mk.injEq] at he
  exact ⟨i, hi, he.1, he.2.1, he.2.2⟩
theorem size_madeCells_one (n : Nat) : (madeCells (Value.slice none 0 0).cells (n * 1)).size = n := by simp [size_madeCells, Value.cells]
def DuA (w wr : World) (b N Bs Bn Bm R : Nat) : Prop := ∃ U s f, Du w wr b U s N Bs Bn Bm R ∧ RowTo wr U R N N f ∧ Mays s f ∧ ∀ i, (f i).length ≤ 1 + s.opn.length
theorem RowTo.lt {wr : World} {U : Nat → Prop} {R N k : Nat} {f : Nat → List Nat} (h : RowTo wr U R N k f) : R < wr.heap.size := by
  obtain ⟨cs, h1, _⟩ := h
  exact h1.lt
theorem rd_blk {w : World} {g : Nat} {t : TypeId} {u : Value} (h : Blk w g t #[u]) {n : Nat} (hn : n = 1) : Rd w (some ⟨g, 0, none⟩) 1 n [u] := by
  subst hn
  refine ⟨rfl, fun j v hv => ?_⟩
  cases j with
  | zero => rw [List.getElem?_cons_zero] at hv; injection hv with hv; subst hv; exact ⟨g, 0, rfl, h.cell rfl⟩
  | succ j => simp at hv
/-- What is allowed while an op's blocks are gone through. -/
def mayTo (f : Nat → List Nat) (k j : Nat) (v : List Nat) : Nat → List Nat := fun i => if k ≤ i ∧ i < k + j then f i ++ [fun_ v (i : Int)] else f i
theorem mayTo_zero (f : Nat → List Nat) (k : Nat) (v : List Nat) : mayTo f k 0 v = f := by
  funext i
  unfold mayTo
  rw [if_neg (by omega)]
theorem mayTo_all {f : Nat → List Nat} {o : BOp} {k q : Nat} {v : List Nat} (hk : o.off = (k : Int)) (hq : o.cnt = (q : Int)) : mayTo f k q v = mayDo f o v := by
  funext i
  unfold mayTo mayDo
  by_cases h : k ≤ i ∧ i < k + q
  · rw [if_pos h, if_pos (BOp.at_iff.2 ⟨by omega, by omega⟩)]
  · rw [if_neg h, if_neg (fun e => by have := BOp.at_iff.1 e; omega)]
set_option maxRecDepth 100000 in
set_option maxHeartbeats 16000000 in
theorem shardDurable_walk (w : World) (z : Int) (S1 : Option Addr) (n1 c1 : Nat) (l1 : List ActV) (K2 : Option Addr) (n2 c2 : Nat) (l2 : List Bool) (h1 : (Shp.slice actShp 96).R w [.slice S1 n1 c1] l1) (h2 : blShp.R w [.slice K2 n2 c2] l2) :
    Calls Try.prog 4 #[.int .i64 z, .slice S1 n1 c1, .slice K2 n2 c2] w fun e w' => e = .returned (.bool true) ∧ Below w.heap.size w w' := by
  have hn1 := acts_len h1
  obtain ⟨hk2, hk3⟩ := bl_of h2
  obtain ⟨N, hN, hN63⟩ := and63 z
  obtain ⟨i1, hi1, hy0, hy1, hy2⟩ := u1_info
  obtain ⟨i2, hi2, hv0', hv1', hv2'⟩ := u64_info
  have Hy := Lib.hid hy2
  have Hv := Lib.hid hv2'
  clear hy2 hv2'
  obtain ⟨wb, hwb⟩ : ∃ wb, w.alloc (.cells #[.int .i64 z] 3) = wb := ⟨_, rfl⟩
  have hkb : Blk wb w.heap.size 3 #[.int .i64 z] := by rw [← hwb]; exact Blk.new w _ _ rfl
  have hbb : Below w.heap.size w wb := by rw [← hwb]; exact (Below.refl _ _).alloc (Nat.le_refl _) _
  have hsb : wb.heap.size = w.heap.size + 1 := by rw [← hwb]; simp
  have cb := hkb.cell (j := 0) (u := .int .i64 z) rfl
  have fb := hkb.free 0
  obtain ⟨W, hW⟩ : ∃ W, wb.setCell ⟨w.heap.size, 0, none⟩ (.int .i64 (N : Int)) = W := ⟨_, rfl⟩
  have hkW : Blk W w.heap.size 3 #[.int .i64 (N : Int)] := by rw [← hW]; exact hkb.setCell 0 _
  have hbW : Below w.heap.size w W := by rw [← hW]; exact hbb.setCell (p := ⟨w.heap.size, 0, none⟩) (Nat.le_refl _) _
  have hsW : W.heap.size = w.heap.size + 1 := by rw [← hW]; simp [hsb]
  have cW := hkW.cell (j := 0) (u := .int .i64 (N : Int)) rfl
  clear hkb hbb hsb
  go_enter Try.func4, Try.ntmps4
  go_wp2_with fail
  refine (new_ W N (by omega)).mono ?_
  rintro e w1 ⟨b, rfl, hS1, hB1⟩
  have hs01 : W.heap.size ≤ w1.heap.size := hB1.size
  have hkn1 := hkW.keep (show Below W.heap.size W w1 from hB1)
  obtain ⟨w2, hw2⟩ : ∃ w2, w1.alloc (.cells #[.pointer (some ⟨b, 0, none⟩)] 23) = w2 := ⟨_, rfl⟩
  have hks2 : Blk w2 w1.heap.size 23 #[.pointer (some ⟨b, 0, none⟩)] := by rw [← hw2]; exact Blk.new w1 _ _ rfl
  have hb12 : Below w1.heap.size w1 w2 := by rw [← hw2]; exact (Below.refl _ _).alloc (Nat.le_refl _) _
  have hs2 : w2.heap.size = w1.heap.size + 1 := by rw [← hw2]; simp
  have hkn2 := hkn1.keep hb12
  have hR2 : Run W w2 b (neu W w1) (newS N) := (Run.mk hS1 hB1).below hb12
  have hlow : ∀ j, neu W w1 j → W.heap.size ≤ j ∧ j < w1.heap.size := fun j hj => hS1.ulow j hj
  obtain ⟨U, hU⟩ : ∃ U, neu W w1 = U := ⟨_, rfl⟩
  rw [hU] at hR2 hlow
  obtain ⟨Bs, hBs⟩ : ∃ Bs, w1.heap.size = Bs := ⟨_, rfl⟩
  rw [hBs] at hks2 hs2 hlow
  have cs2 := hks2.cell (j := 0) (u := .pointer (some ⟨b, 0, none⟩)) rfl
  clear hS1 hkn1 hb12 hU cb fb
  go_wp2_with fail
  refine (alive_ _).mono ?_
  rintro e w3 ⟨rfl, hb3⟩
  have hR3 := hR2.below hb3
  have hks3 := hks2.keep hb3
  have hkn3 := hkn2.keep hb3
  have hs23 := hb3.size
  have cn3 := hkn3.cell (j := 0) (u := .int .i64 (N : Int)) rfl
  clear hR2 hks2 hkn2 hb3 cs2
  obtain ⟨R, hRR⟩ : ∃ R, w3.heap.size = R := ⟨_, rfl⟩
  go_wp2_with (first
    | (at_make
       go_must (refine wpList_make_blk _ rfl _ _ 45 rfl 29 i1 _ 1 24 Try.underlying45 hi1 hy0 hy1 Hy.out .i64 .i64 _ _ N rfl rfl rfl rfl (by omega) (by omega) ?_)
       intro w4 hk4 hb4 hs4
       go_must (
         rw [hRR] at hk4 hs4
         obtain ⟨w5, hw5⟩ : ∃ w5, w4.alloc (.cells #[.slice (some ⟨R, 0, none⟩) N N] 45) = w5 := ⟨_, rfl⟩
         have hb45 : Below w4.heap.size w4 w5 := by rw [← hw5]; exact (Below.refl _ _).alloc (Nat.le_refl _) _
         have hkm5 : Blk w5 w4.heap.size 45 #[.slice (some ⟨R, 0, none⟩) N N] := by rw [← hw5]; exact Blk.new w4 _ _ rfl
         have hD5 : Du W w5 b U (newS N) N Bs w.heap.size w4.heap.size R := ⟨(hR3.below hb4).below hb45, rfl, hN63, (hks3.keep hb4).keep hb45, (hkn3.keep hb4).keep hb45, hkm5, fun e => by have := hlow _ e; omega, fun e => by have := hlow _ e; omega, fun e => by have := hlow _ e; omega, fun e => by have := hlow _ e; omega, by omega⟩
         have hR5 : RowTo w5 U R N 0 (fun _ => []) := ⟨_, hk4.keep hb45, size_madeCells_one _, fun i hi => absurd hi (Nat.not_lt_zero _)⟩
         obtain ⟨Bm, hBm⟩ : ∃ Bm, w4.heap.size = Bm := ⟨_, rfl⟩
         rw [hBm] at hD5
         clear hk4 hb4 hb45 hkm5 hR3 hks3 hkn3 hlow hs4))
    | fail)
  have hfx := fix_ W w5 b N Bs w.heap.size Bm R U (newS N) (fun _ => []) hD5 hR5
  refine hfx.mono ?_
  rintro e w6 ⟨rfl, hD6, hR6, -, -⟩
  have hA6 : DuA W w6 b N Bs w.heap.size Bm R := ⟨U, newS N, _, hD6, hR6, mays_fix rfl rfl, fun i => Nat.le_add_right 1 _⟩
  clear hfx hD5 hR5 hD6 hR6 hBm hRR hs2 hs23 hs01 hN hB1
  go_wp2_with fail
  go_loopw [50] (fun iv wr => ∃ k : Nat, k ≤ n1 ∧ iv = .int .i64 (k : Int) ∧ DuA W wr b N Bs w.heap.size Bm R) (fun iv _ => n1 - (intOf iv).toNat)
  case atStart => exact ⟨0, Nat.zero_le _, rfl, hA6⟩
  case round =>
    obtain ⟨k, hk, rfl, U, s, f, hD, hRw, hM, hLn⟩ := hrel
    clear hA6
    obtain ⟨wo, hwo⟩ : ∃ wo : World, wo = wr := ⟨_, rfl⟩
    subst hwo
    have hbWo : Below w.heap.size w wo := hbW.trans (hD.run.bel.mono hbW.size)
    by_cases hlt : k < n1
    · have hil : (k : Int) < (n1 : Int) := by omega
      have hk0 : (0 : Int) ≤ (k : Int) := by omega
      obtain ⟨bs, os, X, m, cc, K, kn, kc, a, rfl, hcell, hAat⟩ := acts_later h1 hbWo hlt
      have q0 := hcell 0 _ rfl
      have q1 := hcell 1 _ rfl
      have q2 := hcell 2 _ rfl
      have q3 := hcell 3 _ rfl
      have q4 := hcell 4 _ rfl
      have q5 := hcell 5 _ rfl
      have q6 := hcell 6 _ rfl
      have q7 := hcell 7 _ rfl
      rw [Nat.add_zero] at q0
      obtain ⟨hbv, hvar⟩ := act_var wo a X m cc K kn kc
      have hDv := hD.below hbv
      have hRv := hRw.below hbv
      have hAatW : ∀ w', Below W.heap.size W w' → Aat w' a X m cc K kn kc := fun w' hb => hAat w' (hbW.trans (hb.mono hbW.size))
      have hdo := hD.run.does hbv hAatW
      have hvU : ¬ U wo.heap.size := fun e => by have := (hD.run.sh.ulow _ e).2; omega
      have hlR := hRv.lt
      have hlR0 := hRw.lt
      have cs0 := hDv.bs.cell (j := 0) (u := .pointer (some ⟨b, 0, none⟩)) rfl
      have hok := hD.run.sh.ok
      have hn0 := hD.n
      clear hcell hD hRw
      simp only [actC] at hdo hbv hvar hDv hRv hlR cs0
      have u0 := hvar.cell (j := 0) (u := .int .u8 (a.kd : Int)) rfl
      have u1 := hvar.cell (j := 1) (u := .int .i64 a.op.kind) rfl
      have u2 := hvar.cell (j := 2) (u := .int .i64 a.op.off) rfl
      have u3 := hvar.cell (j := 3) (u := .int .i64 a.op.len) rfl
      have u4 := hvar.cell (j := 4) (u := .slice X m cc) rfl
      have u5 := hvar.cell (j := 5) (u := .int .i64 a.id) rfl
      have u6 := hvar.cell (j := 6) (u := .bool a.yes) rfl
      have u7 := hvar.cell (j := 7) (u := .slice K kn kc) rfl
      go_wp2_with fail
      refine hdo.mono ?_
      rintro e w5 ⟨rfl, hNx⟩
      have hD5 := hDv.next hNx ((actS_n s a).trans hDv.n) hlR
      have hR5 := hRv.next hNx.fr hDv.ur
      have hv5 := hNx.fr.blk _ _ _ hvar hvU fot_act
      have v0 := hv5.cell (j := 0) (u := .int .u8 (a.kd : Int)) rfl
      obtain ⟨Ut, hUt⟩ : ∃ Ut, gr U (wo.alloc (.cells #[.int .u8 (a.kd : Int), .int .i64 a.op.kind, .int .i64 a.op.off, .int .i64 a.op.len, .slice X m cc, .int .i64 a.id, .bool a.yes, .slice K kn kc] 34)) w5 = Ut := ⟨_, rfl⟩
      rw [hUt] at hD5 hR5
      have hopen := act_open s a
      have hsn := hD5.n
      have hdat := hAatW w5 hD5.run.bel
      clear hdo hNx hDv hRv hvar hUt hvU hbv cs0 u0 u1 u2 u3 u4 u5 u6 u7 q0 q1 q2 q3 q4 q5 q6 q7 hlR hAatW hAat hbWo
      generalize hge : actE s a = ge at *
      generalize hgs : actS s a = st at *
      rcases hopen with ⟨hz, e0, hdE, e2⟩ | ⟨e0, e1, e2⟩ | ⟨e0, e3, e1, e2⟩
      · have q := kd_test e0
        have hzb : (ge == 0) = true := by simp [hz]
        have hMt : Mays st (mayDo f a.op st.now) := by rw [e2]; exact mays_do hok hM hdE
        have hLt : ∀ i, (mayDo f a.op st.now i).length ≤ 1 + st.opn.length := fun i => by
          have := hLn i
          rw [e2]
          unfold doS
          rw [if_pos hdE]
          unfold mayDo
          simp only [List.length_append, List.length_singleton]
          split
          · simp only [List.length_append, List.length_singleton]; omega
          · omega
        have hLf : ∀ i, (f i).length ≤ 257 := fun i => by have := hLn i; have := hok.few; omega
        obtain ⟨ho, hon⟩ : a.op.Ok s.n ∧ s.n ≤ 1024 := by
          have hr : a.op.right s.n = true := by
            unfold doE at hdE
            split at hdE
            · assumption
            · cases hdE
          obtain ⟨p1, _, p2⟩ := ok_of_right hr
          exact ⟨p1, by omega⟩
        rw [hn0] at ho
        obtain ⟨ko, hko⟩ := Int.eq_ofNat_of_zero_le ho.low
        obtain ⟨qo, hqo⟩ := Int.eq_ofNat_of_zero_le (show 0 ≤ a.op.cnt by have := ho.some; omega)
        have hkq : ko + qo ≤ N := by have := ho.high; omega
        have hq0 : 0 < qo := by have := ho.some; omega
        have hfm : a.op.from_ = (ko : Int) := by rw [from_ok ho, hko]
        have hrg := Blo.rrange_at w5 a.op X m cc hdat.dat ko qo hfm hqo
        have hlast : mayTo f ko qo st.now = mayDo f a.op st.now := mayTo_all hko hqo
        have v1 := hv5.cell (j := 1) (u := .int .i64 a.op.kind) rfl
        have v2 := hv5.cell (j := 2) (u := .int .i64 a.op.off) rfl
        have v3 := hv5.cell (j := 3) (u := .int .i64 a.op.len) rfl
        have v4 := hv5.cell (j := 4) (u := .slice X m cc) rfl
        have Hlast := Lib.hid hlast
        clear e0 hz e2 hdE ho hon hko hqo hfm hdat hlast hM hok
        go_wp2_with fail
        refine hrg.mono ?_
        rintro e w6 ⟨rfl, hb6⟩
        have hD6 := hD5.below hb6
        have hR6 := hR5.below hb6
        have hv6 := hv5.keep hb6
        have v0 := hv6.cell (j := 0) (u := .int .u8 (a.kd : Int)) rfl
        have cs6 := hD6.bs.cell (j := 0) (u := .pointer (some ⟨b, 0, none⟩)) rfl
        have hlow6 := hD6.run.sh.ulow
        have hrd := sread_ w6 W.heap.size b Ut st hD6.run.sh ko qo ⟨by rw [hsn]; exact hkq, .inl hq0⟩
        clear hrg hb6 hD5 hR5 hv5 v1 v2 v3 v4
        go_wp2_with fail
        refine hrd.mono ?_
        rintro e w7 ⟨A7, m7, c7, rfl, hG7, hb7⟩
        have hD7 := hD6.below hb7
        have hR7 := hR6.below hb7
        have hv7 := hv6.keep hb7
        have v0 := hv7.cell (j := 0) (u := .int .u8 (a.kd : Int)) rfl
        have hK7 : Kept w7 Ut A7 m7 c7 ((st.now.drop ko).take qo) := Kept.of (w := W) hG7 (fun j hj => (hlow6 j hj).2)
        have hm7 : qo = m7 := by
          have hl := hG7.ns.len
          have hnl : st.now.length = N := by rw [hD6.run.sh.ok.now]; exact hsn
          rw [List.length_take, List.length_drop, hnl] at hl
          omega
        subst hm7
        clear hrd hG7 hb7 hD6 hR6 hv6 cs6 hlow6
        rw [← mayTo_zero f ko st.now] at hR7
        go_wp2_with fail
        go_loopw [80] (fun jv wx => ∃ j : Nat, j ≤ qo ∧ jv = .int .i64 (j : Int) ∧ Du W wx b Ut st N Bs w.heap.size Bm R ∧ RowTo wx Ut R N N (mayTo f ko j st.now) ∧ Kept wx Ut A7 qo c7 ((st.now.drop ko).take qo) ∧ wx.cell? ⟨wo.heap.size, 0, none⟩ = some (.int .u8 (a.kd : Int))) (fun jv _ => qo - (intOf jv).toNat)
        case atStart => exact ⟨0, Nat.zero_le _, rfl, hD7, hR7, hK7, v0⟩
        case round =>
          obtain ⟨j, hj, rfl, hD, hRw, hK, hv⟩ := hrel
          clear hD7 hR7 hK7 hv7 v0
          by_cases hlt5 : j < qo
          · have hjl : (j : Int) < (qo : Int) := by omega
            have hj0 : (0 : Int) ≤ (j : Int) := by omega
            obtain ⟨wo2, hwo2⟩ : ∃ wo2 : World, wo2 = wr := ⟨_, rfl⟩
            subst hwo2
            have hnl : st.now.length = N := by rw [hD.run.sh.ok.now]; exact hsn
            obtain ⟨g7, cap7, cur7, ev7, -, -, -, hk7, -, htk7⟩ := own_cells hK.got.own (by omega)
            injection ev7 with ev7 _ ecap
            subst ev7
            subst ecap
            obtain ⟨x, hx⟩ : ∃ x, fun_ st.now ((ko + j : Nat) : Int) = x := ⟨_, rfl⟩
            have hxl : x < 18446744073709551616 := by
              rw [← hx]
              have := hK.got.low
              unfold fun_ List.getD
              rw [Int.toNat_natCast, List.getElem?_eq_getElem (by omega)]
              refine this _ (List.mem_of_getElem? (i := j) ?_)
              rw [List.getElem?_take, if_pos hlt5, List.getElem?_drop, List.getElem?_eq_getElem (by omega)]
              rfl
            have hcur : cur7[j]? = some (.int .u64 (x : Int)) := by
              have e1 : (cur7.toList.take qo)[j]? = (nvs ((st.now.drop ko).take qo))[j]? := by rw [htk7]
              rw [List.getElem?_take, if_pos hlt5] at e1
              rw [← Array.getElem?_toList, e1, ← hx]
              simp only [nvs, List.getElem?_map, fun_, List.getD, Int.toNat_natCast]
              rw [List.getElem?_take, if_pos hlt5, List.getElem?_drop, List.getElem?_eq_getElem (by omega)]
              rfl
            have cx := hk7.cell (j := j) hcur
            obtain ⟨csr, hcsr, hszr, hrow⟩ := id hRw
            obtain ⟨Ai, mi, ci, hci, hmi, hMr⟩ := hrow (ko + j) (by omega)
            have cR := hcsr.cell (j := ko + j) hci
            have cM := hD.bm.cell (j := 0) (u := .slice (some ⟨R, 0, none⟩) N N) rfl
            obtain ⟨l, hl⟩ : ∃ l, f (ko + j) = l := ⟨_, rfl⟩
            have hml : mayTo f ko j st.now (ko + j) = l := by unfold mayTo; rw [if_neg (by omega), hl]
            rw [hml] at hMr
            have hns := hMr.ns
            have hmi2 : mi ≤ 257 := by have := hLf (ko + j); have := hns.len; rw [hl] at *; omega
            have hAn : Ai = none → mi = 0 := hns.zero
            have hwp : IntKind.i64.wrap ((ko : Int) + (j : Int)) = ((ko + j : Nat) : Int) := by rw [IntKind.wrap_i64]; omega
            have t0 : (0 : Int) ≤ ((ko + j : Nat) : Int) := by omega
            have t1 : ((ko + j : Nat) : Int) < (N : Int) := by omega
            have t2 : (0 : Int) ≤ (ko : Int) + (j : Int) := by omega
            have t3 : (ko : Int) + (j : Int) < (N : Int) := by omega
            have t4 : ((ko : Int) + (j : Int)).toNat = ko + j := by omega
            have hba : Below wo2.heap.size wo2 (wo2.alloc (.cells #[.int .u64 (x : Int)] 48)) := (Below.refl _ _).alloc (Nat.le_refl _) _
            have hka := Blk.new wo2 48 #[.int .u64 (x : Int)] rfl
            have hra := hns.1.alloc (.cells #[.int .u64 (x : Int)] 48)
            have hsa : wo2.heap.size ≤ (wo2.alloc (.cells #[.int .u64 (x : Int)] 48)).heap.size := hba.size
            have hRwo : R ≠ wo.heap.size := fun e => by have := hlR0; omega
            have Hl := Lib.hid hl
            have Hx := Lib.hid hx
            clear hrow hci hMr hml htk7 hnl hx hl hLf
            go_wp2_with fail
            refine wp_region_noPanic ?_
            refine wp_region_held_drew (S := fun w' => w'.cell? ⟨Bm, 0, none⟩ = some (.slice (some ⟨R, 0, none⟩) N N) ∧ w'.cell? ⟨g7, j, none⟩ = some (.int .u64 (x : Int))) (by kernel_rfl) ⟨cM, cx⟩ (fun _ => ?_)
            refine wpAnyH_take (i := 0) (oi := _) (v := ?_) rfl (by kernel_rfl) (by kernel_rfl) (by kernel_rfl) (fun _ _ _ h => h) (Or.inl ⟨by kernel_rfl, ?_⟩) ⟨cM, cx⟩ ?_
            rotate_left
            · (rintro w ⟨s0, s1⟩; go_simp; (first | done | rfl))
            try simp only [Act.put, List.getElem_toArray, List.getElem_cons_zero, List.getElem_cons_succ, List.setIfInBounds_toArray, List.set_cons_zero, List.set_cons_succ]
            refine wpAnyH_take (i := 1) (oi := _) (v := ?_) rfl (by kernel_rfl) (by kernel_rfl) (by kernel_rfl) (fun _ _ _ h => h) (Or.inl ⟨by kernel_rfl, ?_⟩) ⟨cM, cx⟩ ?_
            rotate_left
            · (rintro w ⟨s0, s1⟩; go_simp; (first | done | rfl))
            try simp only [Act.put, List.getElem_toArray, List.getElem_cons_zero, List.getElem_cons_succ, List.setIfInBounds_toArray, List.set_cons_zero, List.set_cons_succ]
            refine wpAnyH_take (i := 2) (oi := _) (v := ?_) rfl (by kernel_rfl) (by kernel_rfl) (by kernel_rfl) (fun _ _ _ h => h) (Or.inl ⟨by kernel_rfl, ?_⟩) ⟨cM, cx⟩ ?_
            rotate_left
            · (rintro w ⟨s0, s1⟩; go_simp; (first | done | rfl))
            try simp only [Act.put, List.getElem_toArray, List.getElem_cons_zero, List.getElem_cons_succ, List.setIfInBounds_toArray, List.set_cons_zero, List.set_cons_succ]
            refine wpAnyH_take (i := 3) (oi := _) (v := ?_) rfl (by kernel_rfl) (by kernel_rfl) (by kernel_rfl) (fun _ _ _ h => h) (Or.inl ⟨by kernel_rfl, ?_⟩) ⟨cM, cx⟩ ?_
            rotate_left
            · (rintro w ⟨s0, s1⟩; go_simp; (first | done | rfl))
            try simp only [Act.put, List.getElem_toArray, List.getElem_cons_zero, List.getElem_cons_succ, List.setIfInBounds_toArray, List.set_cons_zero, List.set_cons_succ]
            refine wpAnyH_take (i := 4) (oi := _) (v := ?_) rfl (by kernel_rfl) (by kernel_rfl) (by kernel_rfl) (fun _ _ _ h => h) (Or.inl ⟨by kernel_rfl, ?_⟩) ⟨cM, cx⟩ ?_
            rotate_left
            · (rintro w ⟨s0, s1⟩; go_simp; (first | done | rfl))
            try simp only [Act.put, List.getElem_toArray, List.getElem_cons_zero, List.getElem_cons_succ, List.setIfInBounds_toArray, List.set_cons_zero, List.set_cons_succ]
            refine wpAnyH_take (i := 5) (oi := _) (v := ?_) rfl (by kernel_rfl) (by kernel_rfl) (by kernel_rfl) (fun _ _ _ h => h) (Or.inl ⟨by kernel_rfl, ?_⟩) ⟨cM, cx⟩ ?_
            rotate_left
            · (rintro w ⟨s0, s1⟩; go_simp; (first | done | rfl))
            try simp only [Act.put, List.getElem_toArray, List.getElem_cons_zero, List.getElem_cons_succ, List.setIfInBounds_toArray, List.set_cons_zero, List.set_cons_succ]
            refine wpAnyH_take (i := 6) (oi := _) (v := ?_) rfl (by kernel_rfl) (by kernel_rfl) (by kernel_rfl) (fun _ _ _ h => h) (Or.inl ⟨by kernel_rfl, ?_⟩) ⟨cM, cx⟩ ?_
            rotate_left
            · (rintro w ⟨s0, s1⟩; go_simp; (first | done | rfl))
            try simp only [Act.put, List.getElem_toArray, List.getElem_cons_zero, List.getElem_cons_succ, List.setIfInBounds_toArray, List.set_cons_zero, List.set_cons_succ]
            refine wpAnyH_take (i := 7) (oi := _) (v := ?_) rfl (by kernel_rfl) (by kernel_rfl) (by kernel_rfl) (fun _ _ _ h => h) (Or.inl ⟨by kernel_rfl, ?_⟩) ⟨cM, cx⟩ ?_
            rotate_left
            · (rintro w ⟨s0, s1⟩; go_simp; (first | done | rfl))
            try simp only [Act.put, List.getElem_toArray, List.getElem_cons_zero, List.getElem_cons_succ, List.setIfInBounds_toArray, List.set_cons_zero, List.set_cons_succ]
            refine wpAnyH_take (i := 8) (oi := _) (v := ?_) rfl (by kernel_rfl) (by kernel_rfl) (by kernel_rfl) (fun _ _ _ h => h) (Or.inl ⟨by kernel_rfl, ?_⟩) ⟨cM, cx⟩ ?_
            rotate_left
            · (rintro w ⟨s0, s1⟩; go_simp; (first | done | rfl))
            try simp only [Act.put, List.getElem_toArray, List.getElem_cons_zero, List.getElem_cons_succ, List.setIfInBounds_toArray, List.set_cons_zero, List.set_cons_succ]
            refine wpAnyH_take (i := 11) (oi := _) (v := ?_) rfl (by kernel_rfl) (by kernel_rfl) (by kernel_rfl) (fun _ _ _ h => h) (Or.inl ⟨by kernel_rfl, ?_⟩) ⟨cM, cx⟩ ?_
            rotate_left
            · (rintro w ⟨s0, s1⟩; go_simp; (first | done | rfl))
            try simp only [Act.put, List.getElem_toArray, List.getElem_cons_zero, List.getElem_cons_succ, List.setIfInBounds_toArray, List.set_cons_zero, List.set_cons_succ]
            refine wpAnyH_take (i := 12) (oi := _) (v := ?_) rfl (by kernel_rfl) (by kernel_rfl) (by kernel_rfl) (fun _ _ _ h => h) (Or.inl ⟨by kernel_rfl, ?_⟩) ⟨cM, cx⟩ ?_
            rotate_left
            · (rintro w ⟨s0, s1⟩; go_simp; (first | done | rfl))
            try simp only [Act.put, List.getElem_toArray, List.getElem_cons_zero, List.getElem_cons_succ, List.setIfInBounds_toArray, List.set_cons_zero, List.set_cons_succ]
            refine wpAnyH_take (i := 13) (oi := _) (v := ?_) rfl (by kernel_rfl) (by kernel_rfl) (by kernel_rfl) (fun _ _ _ h => h) (Or.inl ⟨by kernel_rfl, ?_⟩) ⟨cM, cx⟩ ?_
            rotate_left
            · (rintro w ⟨s0, s1⟩; go_simp; (first | done | rfl))
            try simp only [Act.put, List.getElem_toArray, List.getElem_cons_zero, List.getElem_cons_succ, List.setIfInBounds_toArray, List.set_cons_zero, List.set_cons_succ]
            refine wpAnyH_take (i := 14) (oi := _) (v := ?_) rfl (by kernel_rfl) (by kernel_rfl) (by kernel_rfl) (fun _ _ _ h => h) (Or.inl ⟨by kernel_rfl, ?_⟩) ⟨cM, cx⟩ ?_
            rotate_left
            · (rintro w ⟨s0, s1⟩; go_simp; (first | done | rfl))
            try simp only [Act.put, List.getElem_toArray, List.getElem_cons_zero, List.getElem_cons_succ, List.setIfInBounds_toArray, List.set_cons_zero, List.set_cons_succ]
            refine wpAnyH_ready (rs := [9, 15]) (by kernel_rfl) (by simp) (AllReadyH.cons (o := _) rfl (fun K hK => ?_) (AllReadyH.cons (o := _) rfl (fun K hK => ?_) AllReadyH.nil))
            · rw [if_pos (by kernel_rfl)]
              go_simp
              refine hK.out _ _ ⟨cM, cx⟩ (fun _ => ?_)
              clear hK K
              try simp only [Act.put, List.getElem_toArray, List.getElem_cons_zero, List.getElem_cons_succ, List.setIfInBounds_toArray, List.set_cons_zero, List.set_cons_succ]
              refine wpAnyH_ready (rs := [10, 15]) (by kernel_rfl) (by simp) (AllReadyH.cons (o := _) rfl (fun K hK => ?_) (AllReadyH.cons (o := _) rfl (fun K hK => ?_) AllReadyH.nil))
              · rw [if_pos (by kernel_rfl)]
                refine wp_app _ (.const (.slice none 0 0)) (.tmp 92) _ rfl wo2.heap.size 48 i2 _ 1 8 Try.underlying29 hi2 hv0' hv1' Hv.out rfl Nat.one_pos (.slice none 0 0) 0 [] rfl (own_nil _ _ _ _) Ai mi ci (nvs l) rfl hAn (show Rd wo2.drew Ai 1 mi (nvs l) from hns.1) (nvs_one l) (by unfold maxLen; omega) (by omega) (Nat.le_refl _) ?_
                intro v2 w2 hown2 hg2 hat2
                rw [Nat.zero_add, List.nil_append] at hown2
                have hb2 : Below wo2.heap.size wo2 w2 := ⟨hg2.os, hg2.tape, hg2.output, hg2.size, fun k hk => hg2.block k hk (by simp [Value.ownBlock])⟩
                have hb2a := hb2.alloc hb2.size (.cells #[.int .u64 (x : Int)] 48)
                refine hK.out _ _ ⟨(hb2.cell (cell_lt cM)).trans cM, (hb2.cell (cell_lt cx)).trans cx⟩ (fun _ => ?_)
                clear hK K
                try simp only [Act.put, List.getElem_toArray, List.getElem_cons_zero, List.getElem_cons_succ, List.setIfInBounds_toArray, List.set_cons_zero, List.set_cons_succ]
                refine wpAnyH_ready (rs := [15]) (by kernel_rfl) (by simp) (AllReadyH.cons (o := _) rfl (fun K hK => ?_) AllReadyH.nil)
                rw [if_pos (by kernel_rfl)]
                go_simp
                refine hK.out _ _ ⟨(hb2a.cell (cell_lt cM)).trans cM, (hb2a.cell (cell_lt cx)).trans cx⟩ (fun _ => ?_)
                clear hK K
                try simp only [Act.put, List.getElem_toArray, List.getElem_cons_zero, List.getElem_cons_succ, List.setIfInBounds_toArray, List.set_cons_zero, List.set_cons_succ]
                refine wpAnyH_ready (rs := [16]) (by kernel_rfl) (by simp) (AllReadyH.cons (o := _) rfl (fun K hK => ?_) AllReadyH.nil)
                rw [if_pos (by kernel_rfl)]
                refine wp_app _ (.tmp 93) (.tmp 98) _ rfl wo2.heap.size 48 i2 _ 1 8 Try.underlying29 hi2 hv0' hv1' Hv.out rfl Nat.one_pos v2 mi (nvs l) rfl (own_keep hown2 ((Below.refl _ _).alloc (Nat.le_refl _) (.cells #[.int .u64 (x : Int)] 48))) (some ⟨w2.heap.size, 0, none⟩) 1 1 [.int .u64 (x : Int)] rfl (fun h => by cases h) (Rd.new w2 #[.int .u64 (x : Int)] 48 (0, 0) rfl) (fun u hu => by rw [List.mem_singleton.1 hu]; rfl) (by unfold maxLen; omega) (by omega) (Nat.le_trans hb2.size (by simp)) ?_
                intro v3 w3 hown3 hg3 hat3
                have hb3 : Below wo2.heap.size wo2 w3 := (hb2.alloc hb2.size (.cells #[.int .u64 (x : Int)] 48)).grown hg3 (by have := hb2.size; simp; omega) (fun k hk => (hown2.lt k hk).1)
                obtain ⟨g3, c3, cur3, rfl, -, hc3, hg3', hk3, -, htk3⟩ := own_cells hown3 (Nat.succ_pos _)
                have cM3 := (hb3.cell (cell_lt cM)).trans cM
                have cR3 := (hb3.cell (cell_lt cR)).trans cR
                have cx3 := (hb3.cell (cell_lt cx)).trans cx
                have fR3 := (hcsr.keep hb3).free (ko + j)
                have hD3 := (hD.below hb3).store (hcsr.keep hb3) (ko + j) (.slice (some ⟨g3, 0, none⟩) (mi + 1) c3)
                have cMs := hD3.bm.cell (j := 0) (u := .slice (some ⟨R, 0, none⟩) N N) rfl
                have hk7s := (hk7.keep hb3).grown (grown_setCell w3 ⟨R, ko + j, none⟩ (.slice (some ⟨g3, 0, none⟩) (mi + 1) c3)) (fun e => by injection e with e; exact blk_ne hk7 hcsr (by decide) e)
                have cxs := hk7s.cell (j := j) hcur
                refine hK.out _ _ ⟨cM3, cx3⟩ (fun _ => ?_)
                clear hK K
                try simp only [Act.put, List.getElem_toArray, List.getElem_cons_zero, List.getElem_cons_succ, List.setIfInBounds_toArray, List.set_cons_zero, List.set_cons_succ]
                refine wpAnyH_take (i := 17) (oi := _) (v := ?_) rfl (by kernel_rfl) (by kernel_rfl) (by kernel_rfl) (fun _ _ _ h => h) (Or.inl ⟨by kernel_rfl, ?_⟩) ⟨cM3, cx3⟩ ?_
                rotate_left
                · (rintro w ⟨s0, s1⟩; go_simp; (first | done | rfl))
                try simp only [Act.put, List.getElem_toArray, List.getElem_cons_zero, List.getElem_cons_succ, List.setIfInBounds_toArray, List.set_cons_zero, List.set_cons_succ]
                refine wpAnyH_ready (rs := [18]) (by kernel_rfl) (by simp) (AllReadyH.cons (o := _) rfl (fun K hK => ?_) AllReadyH.nil)
                rw [if_pos (by kernel_rfl)]
                go_simp
                refine hK.out _ _ ⟨cMs, cxs⟩ (fun _ => ?_)
                clear hK K
                try simp only [Act.put, List.getElem_toArray, List.getElem_cons_zero, List.getElem_cons_succ, List.setIfInBounds_toArray, List.set_cons_zero, List.set_cons_succ]
                refine wpAnyH_done (by kernel_rfl) ?_ _
                refine NoPanic.normal ?_
                have hlen3 : mi + 1 = (mayTo f ko (j + 1) st.now (ko + j)).length := by
                  unfold mayTo
                  rw [if_pos (by omega), Hl.out, Hx.out, List.length_append, ← hns.len]; rfl
                have hg3U : ¬ Ut g3 := fun e => by have := (hD.run.sh.ulow _ e).2; omega
                have hval3 : nvs l ++ [.int .u64 (x : Int)] = nvs (mayTo f ko (j + 1) st.now (ko + j)) := by
                  unfold mayTo
                  rw [if_pos (by omega), Hl.out, Hx.out]
                  simp [nvs]
                have hcur3 : ∀ (i y : Nat), (mayTo f ko (j + 1) st.now (ko + j))[i]? = some y → cur3[0 + i]? = some (.int .u64 (y : Int)) := fun i y hy => by
                  have hil := (List.getElem?_eq_some_iff.1 hy).1
                  have e1 : (cur3.toList.take (mi + 1))[i]? = (nvs (mayTo f ko (j + 1) st.now (ko + j)))[i]? := by rw [htk3, hval3]
                  rw [List.getElem?_take, if_pos (by omega)] at e1
                  rw [Nat.zero_add, ← Array.getElem?_toList, e1]
                  simp [nvs, hy]
                have hlow3 : ∀ y ∈ mayTo f ko (j + 1) st.now (ko + j), y < 18446744073709551616 := fun y hy => by
                  unfold mayTo at hy
                  rw [if_pos (by omega), Hl.out, Hx.out] at hy
                  rcases List.mem_append.1 hy with hy | hy
                  · exact hns.2 y hy
                  · rw [List.mem_singleton.1 hy]; exact hxl
                have hoth : ∀ i, i < N → i ≠ ko + j → i < N ∧ mayTo f ko (j + 1) st.now i = mayTo f ko j st.now i := fun i hi hne => ⟨hi, by
                  unfold mayTo
                  by_cases e : ko ≤ i ∧ i < ko + j
                  · rw [if_pos e, if_pos (by omega)]
                  · rw [if_neg e, if_neg (by omega)]⟩
                have hRs := (hRw.below hb3).store (c := c3) (k' := N) (g := mayTo f ko (j + 1) st.now) (ko + j) (by omega) (A := some ⟨g3, 0, none⟩) (m := mi + 1) (by omega) ⟨g3, 0, cur3, rfl, hlen3, hk3, hg3U, hcur3, hlow3⟩ hoth
                have hKs := (hK.below hb3).turn (hcsr.keep hb3) (by decide) (grown_setCell w3 ⟨R, ko + j, none⟩ (.slice (some ⟨g3, 0, none⟩) (mi + 1) c3))
                have hvs : (w3.setCell ⟨R, ko + j, none⟩ (.slice (some ⟨g3, 0, none⟩) (mi + 1) c3)).cell? ⟨wo.heap.size, 0, none⟩ = some (.int .u8 (a.kd : Int)) := by
                  rw [World.cell?_setCell_far _ ⟨R, ko + j, none⟩ ⟨wo.heap.size, 0, none⟩ _ (by show R ≠ wo.heap.size; omega)]
                  exact (hb3.cell (cell_lt hv)).trans hv
                clear hlen3 hval3 hcur3 hlow3 hoth hD hRw hK hv
                go_wp2
                go_roundw
                case rel => exact ⟨j + 1, by omega, by go_num, hD3, hRs, hKs, hvs⟩
                case measure => simp [intOf]; omega
              · rw [if_pos (by kernel_rfl)]
                have cRa := (hba.cell (cell_lt cR)).trans cR
                go_simp
                refine hK.out _ _ ⟨(hba.cell (cell_lt cM)).trans cM, (hba.cell (cell_lt cx)).trans cx⟩ (fun _ => ?_)
                clear hK K
                try simp only [Act.put, List.getElem_toArray, List.getElem_cons_zero, List.getElem_cons_succ, List.setIfInBounds_toArray, List.set_cons_zero, List.set_cons_succ]
                refine wpAnyH_ready (rs := [10]) (by kernel_rfl) (by simp) (AllReadyH.cons (o := _) rfl (fun K hK => ?_) AllReadyH.nil)
                rw [if_pos (by kernel_rfl)]
                refine wp_app _ (.const (.slice none 0 0)) (.tmp 92) _ rfl wo2.heap.size 48 i2 _ 1 8 Try.underlying29 hi2 hv0' hv1' Hv.out rfl Nat.one_pos (.slice none 0 0) 0 [] rfl (own_nil _ _ _ _) Ai mi ci (nvs l) rfl hAn (show Rd (wo2.alloc (.cells #[.int .u64 (x : Int)] 48)).drew Ai 1 mi (nvs l) from hra) (nvs_one l) (by unfold maxLen; omega) (by omega) hsa ?_
                intro v2 w2 hown2 hg2 hat2
                rw [Nat.zero_add, List.nil_append] at hown2
                have hbz : Below (wo2.heap.size + 1) (wo2.alloc (.cells #[.int .u64 (x : Int)] 48)) w2 := ⟨hg2.os, hg2.tape, hg2.output, hg2.size, fun k hk => hg2.block k (by simpa using hk) (by simp [Value.ownBlock])⟩
                have hb2 : Below wo2.heap.size wo2 w2 := hba.trans (hbz.mono (Nat.le_succ _))
                have hk98 : Blk w2 wo2.heap.size 48 #[.int .u64 (x : Int)] := hka.below hbz (Nat.lt_succ_self _)
                refine hK.out _ _ ⟨(hb2.cell (cell_lt cM)).trans cM, (hb2.cell (cell_lt cx)).trans cx⟩ (fun _ => ?_)
                clear hK K
                try simp only [Act.put, List.getElem_toArray, List.getElem_cons_zero, List.getElem_cons_succ, List.setIfInBounds_toArray, List.set_cons_zero, List.set_cons_succ]
                refine wpAnyH_ready (rs := [16]) (by kernel_rfl) (by simp) (AllReadyH.cons (o := _) rfl (fun K hK => ?_) AllReadyH.nil)
                rw [if_pos (by kernel_rfl)]
                refine wp_app _ (.tmp 93) (.tmp 98) _ rfl wo2.heap.size 48 i2 _ 1 8 Try.underlying29 hi2 hv0' hv1' Hv.out rfl Nat.one_pos v2 mi (nvs l) rfl hown2 (some ⟨wo2.heap.size, 0, none⟩) 1 1 [.int .u64 (x : Int)] rfl (fun h => by cases h) (rd_blk hk98 rfl) (fun u hu => by rw [List.mem_singleton.1 hu]; rfl) (by unfold maxLen; omega) (by omega) hb2.size ?_
                intro v3 w3 hown3 hg3 hat3
                have hb3 : Below wo2.heap.size wo2 w3 := (hb2).grown hg3 (by exact hb2.size) (fun k hk => (hown2.lt k hk).1)
                obtain ⟨g3, c3, cur3, rfl, -, hc3, hg3', hk3, -, htk3⟩ := own_cells hown3 (Nat.succ_pos _)
                have cM3 := (hb3.cell (cell_lt cM)).trans cM
                have cR3 := (hb3.cell (cell_lt cR)).trans cR
                have cx3 := (hb3.cell (cell_lt cx)).trans cx
                have fR3 := (hcsr.keep hb3).free (ko + j)
                have hD3 := (hD.below hb3).store (hcsr.keep hb3) (ko + j) (.slice (some ⟨g3, 0, none⟩) (mi + 1) c3)
                have cMs := hD3.bm.cell (j := 0) (u := .slice (some ⟨R, 0, none⟩) N N) rfl
                have hk7s := (hk7.keep hb3).grown (grown_setCell w3 ⟨R, ko + j, none⟩ (.slice (some ⟨g3, 0, none⟩) (mi + 1) c3)) (fun e => by injection e with e; exact blk_ne hk7 hcsr (by decide) e)
                have cxs := hk7s.cell (j := j) hcur
                refine hK.out _ _ ⟨cM3, cx3⟩ (fun _ => ?_)
                clear hK K
                try simp only [Act.put, List.getElem_toArray, List.getElem_cons_zero, List.getElem_cons_succ, List.setIfInBounds_toArray, List.set_cons_zero, List.set_cons_succ]
                refine wpAnyH_take (i := 17) (oi := _) (v := ?_) rfl (by kernel_rfl) (by kernel_rfl) (by kernel_rfl) (fun _ _ _ h => h) (Or.inl ⟨by kernel_rfl, ?_⟩) ⟨cM3, cx3⟩ ?_
                rotate_left
                · (rintro w ⟨s0, s1⟩; go_simp; (first | done | rfl))
                try simp only [Act.put, List.getElem_toArray, List.getElem_cons_zero, List.getElem_cons_succ, List.setIfInBounds_toArray, List.set_cons_zero, List.set_cons_succ]
                refine wpAnyH_ready (rs := [18]) (by kernel_rfl) (by simp) (AllReadyH.cons (o := _) rfl (fun K hK => ?_) AllReadyH.nil)
                rw [if_pos (by kernel_rfl)]
                go_simp
                refine hK.out _ _ ⟨cMs, cxs⟩ (fun _ => ?_)
                clear hK K
                try simp only [Act.put, List.getElem_toArray, List.getElem_cons_zero, List.getElem_cons_succ, List.setIfInBounds_toArray, List.set_cons_zero, List.set_cons_succ]
                refine wpAnyH_done (by kernel_rfl) ?_ _
                refine NoPanic.normal ?_
                have hlen3 : mi + 1 = (mayTo f ko (j + 1) st.now (ko + j)).length := by
                  unfold mayTo
                  rw [if_pos (by omega), Hl.out, Hx.out, List.length_append, ← hns.len]; rfl
                have hg3U : ¬ Ut g3 := fun e => by have := (hD.run.sh.ulow _ e).2; omega
                have hval3 : nvs l ++ [.int .u64 (x : Int)] = nvs (mayTo f ko (j + 1) st.now (ko + j)) := by
                  unfold mayTo
                  rw [if_pos (by omega), Hl.out, Hx.out]
                  simp [nvs]
                have hcur3 : ∀ (i y : Nat), (mayTo f ko (j + 1) st.now (ko + j))[i]? = some y → cur3[0 + i]? = some (.int .u64 (y : Int)) := fun i y hy => by
                  have hil := (List.getElem?_eq_some_iff.1 hy).1
                  have e1 : (cur3.toList.take (mi + 1))[i]? = (nvs (mayTo f ko (j + 1) st.now (ko + j)))[i]? := by rw [htk3, hval3]
                  rw [List.getElem?_take, if_pos (by omega)] at e1
                  rw [Nat.zero_add, ← Array.getElem?_toList, e1]
                  simp [nvs, hy]
                have hlow3 : ∀ y ∈ mayTo f ko (j + 1) st.now (ko + j), y < 18446744073709551616 := fun y hy => by
                  unfold mayTo at hy
                  rw [if_pos (by omega), Hl.out, Hx.out] at hy
                  rcases List.mem_append.1 hy with hy | hy
                  · exact hns.2 y hy
                  · rw [List.mem_singleton.1 hy]; exact hxl
                have hoth : ∀ i, i < N → i ≠ ko + j → i < N ∧ mayTo f ko (j + 1) st.now i = mayTo f ko j st.now i := fun i hi hne => ⟨hi, by
                  unfold mayTo
                  by_cases e : ko ≤ i ∧ i < ko + j
                  · rw [if_pos e, if_pos (by omega)]
                  · rw [if_neg e, if_neg (by omega)]⟩
                have hRs := (hRw.below hb3).store (c := c3) (k' := N) (g := mayTo f ko (j + 1) st.now) (ko + j) (by omega) (A := some ⟨g3, 0, none⟩) (m := mi + 1) (by omega) ⟨g3, 0, cur3, rfl, hlen3, hk3, hg3U, hcur3, hlow3⟩ hoth
                have hKs := (hK.below hb3).turn (hcsr.keep hb3) (by decide) (grown_setCell w3 ⟨R, ko + j, none⟩ (.slice (some ⟨g3, 0, none⟩) (mi + 1) c3))
                have hvs : (w3.setCell ⟨R, ko + j, none⟩ (.slice (some ⟨g3, 0, none⟩) (mi + 1) c3)).cell? ⟨wo.heap.size, 0, none⟩ = some (.int .u8 (a.kd : Int)) := by
                  rw [World.cell?_setCell_far _ ⟨R, ko + j, none⟩ ⟨wo.heap.size, 0, none⟩ _ (by show R ≠ wo.heap.size; omega)]
                  exact (hb3.cell (cell_lt hv)).trans hv
                clear hlen3 hval3 hcur3 hlow3 hoth hD hRw hK hv
                go_wp2
                go_roundw
                case rel => exact ⟨j + 1, by omega, by go_num, hD3, hRs, hKs, hvs⟩
                case measure => simp [intOf]; omega
            · rw [if_pos (by kernel_rfl)]
              have cRa := (hba.cell (cell_lt cR)).trans cR
              go_simp
              refine hK.out _ _ ⟨(hba.cell (cell_lt cM)).trans cM, (hba.cell (cell_lt cx)).trans cx⟩ (fun _ => ?_)
              clear hK K
              try simp only [Act.put, List.getElem_toArray, List.getElem_cons_zero, List.getElem_cons_succ, List.setIfInBounds_toArray, List.set_cons_zero, List.set_cons_succ]
              refine wpAnyH_ready (rs := [9]) (by kernel_rfl) (by simp) (AllReadyH.cons (o := _) rfl (fun K hK => ?_) AllReadyH.nil)
              rw [if_pos (by kernel_rfl)]
              go_simp
              refine hK.out _ _ ⟨(hba.cell (cell_lt cM)).trans cM, (hba.cell (cell_lt cx)).trans cx⟩ (fun _ => ?_)
              clear hK K
              try simp only [Act.put, List.getElem_toArray, List.getElem_cons_zero, List.getElem_cons_succ, List.setIfInBounds_toArray, List.set_cons_zero, List.set_cons_succ]
              refine wpAnyH_ready (rs := [10]) (by kernel_rfl) (by simp) (AllReadyH.cons (o := _) rfl (fun K hK => ?_) AllReadyH.nil)
              rw [if_pos (by kernel_rfl)]
              refine wp_app _ (.const (.slice none 0 0)) (.tmp 92) _ rfl wo2.heap.size 48 i2 _ 1 8 Try.underlying29 hi2 hv0' hv1' Hv.out rfl Nat.one_pos (.slice none 0 0) 0 [] rfl (own_nil _ _ _ _) Ai mi ci (nvs l) rfl hAn (show Rd (wo2.alloc (.cells #[.int .u64 (x : Int)] 48)).drew Ai 1 mi (nvs l) from hra) (nvs_one l) (by unfold maxLen; omega) (by omega) hsa ?_
              intro v2 w2 hown2 hg2 hat2
              rw [Nat.zero_add, List.nil_append] at hown2
              have hbz : Below (wo2.heap.size + 1) (wo2.alloc (.cells #[.int .u64 (x : Int)] 48)) w2 := ⟨hg2.os, hg2.tape, hg2.output, hg2.size, fun k hk => hg2.block k (by simpa using hk) (by simp [Value.ownBlock])⟩
              have hb2 : Below wo2.heap.size wo2 w2 := hba.trans (hbz.mono (Nat.le_succ _))
              have hk98 : Blk w2 wo2.heap.size 48 #[.int .u64 (x : Int)] := hka.below hbz (Nat.lt_succ_self _)
              refine hK.out _ _ ⟨(hb2.cell (cell_lt cM)).trans cM, (hb2.cell (cell_lt cx)).trans cx⟩ (fun _ => ?_)
              clear hK K
              try simp only [Act.put, List.getElem_toArray, List.getElem_cons_zero, List.getElem_cons_succ, List.setIfInBounds_toArray, List.set_cons_zero, List.set_cons_succ]
              refine wpAnyH_ready (rs := [16]) (by kernel_rfl) (by simp) (AllReadyH.cons (o := _) rfl (fun K hK => ?_) AllReadyH.nil)
              rw [if_pos (by kernel_rfl)]
              refine wp_app _ (.tmp 93) (.tmp 98) _ rfl wo2.heap.size 48 i2 _ 1 8 Try.underlying29 hi2 hv0' hv1' Hv.out rfl Nat.one_pos v2 mi (nvs l) rfl hown2 (some ⟨wo2.heap.size, 0, none⟩) 1 1 [.int .u64 (x : Int)] rfl (fun h => by cases h) (rd_blk hk98 rfl) (fun u hu => by rw [List.mem_singleton.1 hu]; rfl) (by unfold maxLen; omega) (by omega) hb2.size ?_
              intro v3 w3 hown3 hg3 hat3
              have hb3 : Below wo2.heap.size wo2 w3 := (hb2).grown hg3 (by exact hb2.size) (fun k hk => (hown2.lt k hk).1)
              obtain ⟨g3, c3, cur3, rfl, -, hc3, hg3', hk3, -, htk3⟩ := own_cells hown3 (Nat.succ_pos _)
              have cM3 := (hb3.cell (cell_lt cM)).trans cM
              have cR3 := (hb3.cell (cell_lt cR)).trans cR
              have cx3 := (hb3.cell (cell_lt cx)).trans cx
              have fR3 := (hcsr.keep hb3).free (ko + j)
              have hD3 := (hD.below hb3).store (hcsr.keep hb3) (ko + j) (.slice (some ⟨g3, 0, none⟩) (mi + 1) c3)
              have cMs := hD3.bm.cell (j := 0) (u := .slice (some ⟨R, 0, none⟩) N N) rfl
              have hk7s := (hk7.keep hb3).grown (grown_setCell w3 ⟨R, ko + j, none⟩ (.slice (some ⟨g3, 0, none⟩) (mi + 1) c3)) (fun e => by injection e with e; exact blk_ne hk7 hcsr (by decide) e)
              have cxs := hk7s.cell (j := j) hcur
              refine hK.out _ _ ⟨cM3, cx3⟩ (fun _ => ?_)
              clear hK K
              try simp only [Act.put, List.getElem_toArray, List.getElem_cons_zero, List.getElem_cons_succ, List.setIfInBounds_toArray, List.set_cons_zero, List.set_cons_succ]
              refine wpAnyH_take (i := 17) (oi := _) (v := ?_) rfl (by kernel_rfl) (by kernel_rfl) (by kernel_rfl) (fun _ _ _ h => h) (Or.inl ⟨by kernel_rfl, ?_⟩) ⟨cM3, cx3⟩ ?_
              rotate_left
              · (rintro w ⟨s0, s1⟩; go_simp; (first | done | rfl))
              try simp only [Act.put, List.getElem_toArray, List.getElem_cons_zero, List.getElem_cons_succ, List.setIfInBounds_toArray, List.set_cons_zero, List.set_cons_succ]
              refine wpAnyH_ready (rs := [18]) (by kernel_rfl) (by simp) (AllReadyH.cons (o := _) rfl (fun K hK => ?_) AllReadyH.nil)
              rw [if_pos (by kernel_rfl)]
              go_simp
              refine hK.out _ _ ⟨cMs, cxs⟩ (fun _ => ?_)
              clear hK K
              try simp only [Act.put, List.getElem_toArray, List.getElem_cons_zero, List.getElem_cons_succ, List.setIfInBounds_toArray, List.set_cons_zero, List.set_cons_succ]
              refine wpAnyH_done (by kernel_rfl) ?_ _
              refine NoPanic.normal ?_
              have hlen3 : mi + 1 = (mayTo f ko (j + 1) st.now (ko + j)).length := by
                unfold mayTo
                rw [if_pos (by omega), Hl.out, Hx.out, List.length_append, ← hns.len]; rfl
              have hg3U : ¬ Ut g3 := fun e => by have := (hD.run.sh.ulow _ e).2; omega
              have hval3 : nvs l ++ [.int .u64 (x : Int)] = nvs (mayTo f ko (j + 1) st.now (ko + j)) := by
                unfold mayTo
                rw [if_pos (by omega), Hl.out, Hx.out]
                simp [nvs]
              have hcur3 : ∀ (i y : Nat), (mayTo f ko (j + 1) st.now (ko + j))[i]? = some y → cur3[0 + i]? = some (.int .u64 (y : Int)) := fun i y hy => by
                have hil := (List.getElem?_eq_some_iff.1 hy).1
                have e1 : (cur3.toList.take (mi + 1))[i]? = (nvs (mayTo f ko (j + 1) st.now (ko + j)))[i]? := by rw [htk3, hval3]
                rw [List.getElem?_take, if_pos (by omega)] at e1
                rw [Nat.zero_add, ← Array.getElem?_toList, e1]
                simp [nvs, hy]
              have hlow3 : ∀ y ∈ mayTo f ko (j + 1) st.now (ko + j), y < 18446744073709551616 := fun y hy => by
                unfold mayTo at hy
                rw [if_pos (by omega), Hl.out, Hx.out] at hy
                rcases List.mem_append.1 hy with hy | hy
                · exact hns.2 y hy
                · rw [List.mem_singleton.1 hy]; exact hxl
              have hoth : ∀ i, i < N → i ≠ ko + j → i < N ∧ mayTo f ko (j + 1) st.now i = mayTo f ko j st.now i := fun i hi hne => ⟨hi, by
                unfold mayTo
                by_cases e : ko ≤ i ∧ i < ko + j
                · rw [if_pos e, if_pos (by omega)]
                · rw [if_neg e, if_neg (by omega)]⟩
              have hRs := (hRw.below hb3).store (c := c3) (k' := N) (g := mayTo f ko (j + 1) st.now) (ko + j) (by omega) (A := some ⟨g3, 0, none⟩) (m := mi + 1) (by omega) ⟨g3, 0, cur3, rfl, hlen3, hk3, hg3U, hcur3, hlow3⟩ hoth
              have hKs := (hK.below hb3).turn (hcsr.keep hb3) (by decide) (grown_setCell w3 ⟨R, ko + j, none⟩ (.slice (some ⟨g3, 0, none⟩) (mi + 1) c3))
              have hvs : (w3.setCell ⟨R, ko + j, none⟩ (.slice (some ⟨g3, 0, none⟩) (mi + 1) c3)).cell? ⟨wo.heap.size, 0, none⟩ = some (.int .u8 (a.kd : Int)) := by
                rw [World.cell?_setCell_far _ ⟨R, ko + j, none⟩ ⟨wo.heap.size, 0, none⟩ _ (by show R ≠ wo.heap.size; omega)]
                exact (hb3.cell (cell_lt hv)).trans hv
              clear hlen3 hval3 hcur3 hlow3 hoth hD hRw hK hv
              go_wp2
              go_roundw
              case rel => exact ⟨j + 1, by omega, by go_num, hD3, hRs, hKs, hvs⟩
              case measure => simp [intOf]; omega
          · have hjn : (qo : Int) ≤ (j : Int) := by omega
            have hje : j = qo := by omega
            subst hje
            rw [Hlast.out] at hRw
            have hnext : DuA W wr b N Bs w.heap.size Bm R := ⟨_, _, _, hD, hRw, hMt, hLt⟩
            clear hD hRw hMt hK
            go_wp2
            go_roundw
            case rel => exact ⟨k + 1, by omega, by go_num, hnext⟩
            case measure => simp [intOf]; omega
      · have hMt : Mays st (fun i => [fun_ st.now (i : Int)]) := mays_fix e1 e2
        have hR50 : RowTo w5 Ut R N 0 (fun _ => []) := by
          obtain ⟨cs, p1, p2, p3⟩ := hR5
          exact ⟨cs, p1, p2, fun i hi => absurd hi (Nat.not_lt_zero _)⟩
        have hfx := fix_ W w5 b N Bs w.heap.size Bm R Ut st (fun _ => []) hD5 hR50
        rcases e0 with e6 | ⟨hz, e6 | e6 | e6⟩
        all_goals (
          have q := kd_test e6
          first
          | (have hzb : (ge == 0) = true := by simp [hz]
             clear hz)
          | skip
          clear e6 hR50 hR5 hM hok hv5 hdat
          go_wp2_with fail
          refine hfx.mono ?_
          rintro e w6 ⟨rfl, hD6, hR6, -, -⟩
          have hnext : DuA W w6 b N Bs w.heap.size Bm R := ⟨_, _, _, hD6, hR6, hMt, fun i => Nat.le_add_right 1 _⟩
          clear hfx hD5 hD6 hR6 hMt e1 e2
          go_wp2
          go_roundw
          case rel => exact ⟨k + 1, by omega, by go_num, hnext⟩
          case measure => simp [intOf]; omega)
      · have hMt : Mays st f := mays_same hM e1 e2 (hsn.trans hn0.symm)
        have g6 : ((a.kd : Int) % 8 == 6) = false := by simp; omega
        have hnext : DuA W w5 b N Bs w.heap.size Bm R := ⟨_, _, _, hD5, hR5, hMt, fun i => by rw [e1]; exact hLn i⟩
        clear hM hok hdat hv5 hD5 hR5 hMt e1 e2
        by_cases hz : ge = 0
        · have hzb : (ge == 0) = true := by simp [hz]
          rcases e0 hz with e6 | e6 | e6
          all_goals (
            have q := kd_test e6
            clear e6 e0 hz e3
            go_wp2
            go_roundw
            case rel => exact ⟨k + 1, by omega, by go_num, hnext⟩
            case measure => simp [intOf]; omega)
        · have hzb : (ge == 0) = false := by simp [hz]
          clear e0 e3 hz
          go_wp2
          all_goals (
            go_roundw
            case rel => exact ⟨k + 1, by omega, by go_num, hnext⟩
            case measure => simp [intOf]; omega)
    · have hin : (n1 : Int) ≤ (k : Int) := by omega
      have hcr := crash_ wo W.heap.size b U s hD.run.sh K2 n2 c2 l2 (fun w' hf => hk2.below (hbWo.trans ((hf.bel).mono (Nat.le_trans hbW.size (Nat.le_refl _))))) hk3
      have cs0 := hD.bs.cell (j := 0) (u := .pointer (some ⟨b, 0, none⟩)) rfl
      go_wp2_with fail
      refine hcr.mono ?_
      rintro e w5 ⟨rfl, hNx⟩
      have hD5 := hD.next hNx hD.n hRw.lt
      have hR5 := hRw.next hNx.fr hD.ur
      have hin' : ∀ i, i < N → fun_ (crS s l2).now (i : Int) ∈ f i := fun i hi => mays_crash hM l2 i (by rw [hD.n]; exact hi)
      obtain ⟨Ut, hUt⟩ : ∃ Ut, gr U wo w5 = Ut := ⟨_, rfl⟩
      obtain ⟨st, hst⟩ : ∃ st, crS s l2 = st := ⟨_, rfl⟩
      have hop : st.opn = [] := by rw [← hst]; rfl
      have hfz : st.frz = false := by rw [← hst]; rfl
      rw [hUt, hst] at hD5
      rw [hUt] at hR5
      rw [hst] at hin'
      have hrd := hD5.run.read hD5.n
      have cs5 := hD5.bs.cell (j := 0) (u := .pointer (some ⟨b, 0, none⟩)) rfl
      have cn5 := hD5.bn.cell (j := 0) (u := .int .i64 (N : Int)) rfl
      have hlow5 := hD5.run.sh.ulow
      clear hcr cs0 hNx hD hRw hM hUt hst hbWo
      go_wp2_with fail
      refine hrd.mono ?_
      rintro e w6 ⟨A6, m6, c6, rfl, hG6, hb6⟩
      have hD6 := hD5.below hb6
      have hR6 := hR5.below hb6
      have hK6 : Kept w6 Ut A6 m6 c6 st.now := Kept.of (w := W) hG6 (fun j hj => (hlow5 j hj).2)
      have hm6 : N = m6 := by rw [hG6.ns.len, hD5.run.sh.ok.now]; exact hD5.n.symm
      subst hm6
      have cn6 := hD6.bn.cell (j := 0) (u := .int .i64 (N : Int)) rfl
      clear hrd hG6 hb6 hD5 hR5 cs5 cn5 hlow5
      go_wp2_with fail
      go_loopw [151] (fun iv wr => ∃ i : Nat, i ≤ N ∧ iv = .int .i64 (i : Int) ∧ Du W wr b Ut st N Bs w.heap.size Bm R ∧ RowTo wr Ut R N N f ∧ Kept wr Ut A6 N c6 st.now) (fun iv _ => N - (intOf iv).toNat)
      case atStart => exact ⟨0, Nat.zero_le _, rfl, hD6, hR6, hK6⟩
      case round =>
        obtain ⟨i, hi, rfl, hD, hRw, hK⟩ := hrel
        clear hD6 hR6 hK6 cn6
        by_cases hlt3 : i < N
        · have hil : (i : Int) < (N : Int) := by omega
          have hi0 : (0 : Int) ≤ (i : Int) := by omega
          have hlen : st.now.length = N := by rw [hD.run.sh.ok.now]; exact hD.n
          obtain ⟨g4, cap4, cur4, ev4, -, -, -, hk4, -, htk⟩ := own_cells hK.got.own (by omega)
          injection ev4 with ev4 _ ecap
          subst ev4
          subst ecap
          obtain ⟨x, hx⟩ : ∃ x, fun_ st.now (i : Int) = x := ⟨_, rfl⟩
          have hcur : cur4[i]? = some (.int .u64 (x : Int)) := by
            have e1 : (cur4.toList.take N)[i]? = (nvs st.now)[i]? := by rw [htk]
            rw [List.getElem?_take, if_pos hlt3] at e1
            rw [← Array.getElem?_toList, e1, ← hx]
            simp only [nvs, List.getElem?_map, fun_, List.getD, Int.toNat_natCast]
            rw [List.getElem?_eq_getElem (by omega)]
            rfl
          have cx := hk4.cell (j := i) hcur
          have hxin := hin' i hlt3
          rw [hx] at hxin
          obtain ⟨csr, hcsr, hszr, hrow⟩ := id hRw
          obtain ⟨Ai, mi, ci, hci, hmi, hMr⟩ := hrow i hlt3
          have cR := hcsr.cell (j := i) hci
          have cM := hD.bm.cell (j := 0) (u := .slice (some ⟨R, 0, none⟩) N N) rfl
          obtain ⟨gi, oi, csi, rfl, hmil, hki, -, hcells, -⟩ := hMr
          obtain ⟨l, hl⟩ : ∃ l, f i = l := ⟨_, rfl⟩
          rw [hl] at hxin hmil hcells
          subst hmil
          have hxin := Lib.hid hxin
          clear hrow hcsr hszr hci hcur hx hl hk4 htk hlen
          go_wp2_with fail
          go_loopw [23, 161] (fun bv jv wx => ∃ j : Nat, j ≤ l.length ∧ jv = .int .i64 (j : Int) ∧ bv = .bool (decide (x ∈ l.take j)) ∧ Blk wx gi 48 csi ∧ Du W wx b Ut st N Bs w.heap.size Bm R ∧ RowTo wx Ut R N N f ∧ Kept wx Ut (some ⟨g4, 0, none⟩) N c6 st.now) (fun _ jv _ => l.length - (intOf jv).toNat)
          case atStart => exact ⟨0, Nat.zero_le _, rfl, by simp, hki, hD, hRw, hK⟩
          case round =>
            obtain ⟨j, hj, rfl, rfl, hki2, hD2, hR2, hK2⟩ := hrel
            clear hki hD hRw hK cx cR cM
            by_cases hlt4 : j < l.length
            · have hjl : (j : Int) < (l.length : Int) := by omega
              have hj0 : (0 : Int) ≤ (j : Int) := by omega
              obtain ⟨y, hy⟩ : ∃ y, l[j]? = some y := ⟨_, List.getElem?_eq_getElem hlt4⟩
              have cy := hki2.cell (j := oi + j) (hcells j y hy)
              have hts := Blo.take_succ_of hy
              have hdec : decide (x ∈ l.take (j + 1)) = (decide (x ∈ l.take j) || decide (x = y)) := by rw [hts]; simp
              have hbeq : ((x : Int) == (y : Int)) = decide (x = y) := by
                by_cases e : x = y
                · subst e; simp
                · rw [decide_eq_false e]; simp; omega
              have Hd := Lib.hid hdec
              clear hts hdec hy
              generalize decide (x ∈ l.take j) = bj at *
              generalize decide (x = y) = by_ at *
              cases bj with
              | true =>
                have Hd2 := Lib.hid (show true = decide (x ∈ l.take (j + 1)) by rw [Hd.out]; rfl)
                clear Hd
                go_wp2
                go_roundw
                case rel => exact ⟨j + 1, by omega, by go_num, by rw [← Hd2.out], hki2, hD2, hR2, hK2⟩
                case measure => simp [intOf]; omega
              | false =>
                have Hd2 := Lib.hid (show by_ = decide (x ∈ l.take (j + 1)) by rw [Hd.out]; rfl)
                clear Hd
                go_wp2
                go_roundw
                case rel => exact ⟨j + 1, by omega, by go_num, by rw [← Hd2.out], hki2, hD2, hR2, hK2⟩
                case measure => simp [intOf]; omega
            · have hjn : (l.length : Int) ≤ (j : Int) := by omega
              have hdt : decide (x ∈ l.take j) = true := by
                rw [List.take_of_length_le (by omega)]
                exact decide_eq_true hxin.out
              rw [hdt]
              clear hdt
              go_wp2
              go_roundw
              case rel => exact ⟨i + 1, by omega, by go_num, hD2, hR2, hK2⟩
              case measure => simp [intOf]; omega
        · have hin2 : (N : Int) ≤ (i : Int) := by omega
          have cs6 := hD.bs.cell (j := 0) (u := .pointer (some ⟨b, 0, none⟩)) rfl
          have hdi := dirty_ wr W.heap.size b Ut st hD.run.sh
          have hfr := frozen_ wr W.heap.size b Ut st hD.run.sh
          rw [hop] at hdi
          rw [hfz] at hfr
          have hfin : Below w.heap.size w wr := hbW.trans (hD.run.bel.mono hbW.size)
          go_wp2_with fail
          refine hdi.mono ?_
          rintro e w' ⟨rfl, rfl⟩
          go_wp2_with fail
          refine hfr.mono ?_
          rintro e w' ⟨rfl, rfl⟩
          go_wp2
          go_ret
          exact ⟨rfl, hfin⟩
end Sha
open Sha

set_option maxRecDepth 100000 in
theorem shardDurable_lifted (os : Os) (started : os.Started) (H : Type) (enc : TypeId × Value → H) :
    ReturnsInHanded {} Try.checked os 4 .any (Rows.shardDurableSpec.pre6 enc Try.prog Try.f4 Rows.shardDurableRow.domain false) (Rows.shardDurableSpec.post enc Try.prog Try.f4 false true false false) := by
  refine law_lifted (C := Try.checked) (tb := 4) own_ started (by kernel_rfl) Try.func4
    (ChangeSpec.witness6 (enc := enc) (C := Try.checked) false ⟨#[], #[.int .i64 0, .slice none 0 0, .slice none 0 0], []⟩ 8 (by kernel_rfl) (by kernel_rfl) (by kernel_rfl) (by kernel_rfl))
    rfl rfl Try.underlying4 laidOut_ (by kernel_rfl) (fun ds h => by match ds, h with | [_, _, _], _ => rfl) ?_
  intro W base args ds p hval0 hA0 _ hsz0
  have hval : ∀ (j : Nat) t v, Try.f4.params[j]? = some t → args[j]? = some v → Value.okWide Try.prog W .any base t v := hval0
  have hA : DataW.TrodAll enc Try.prog W 0 (fun _ => true) true Try.f4.params.toList args.toList ds p := hA0
  have hsz : (DataW.weightsEach Try.prog Try.f4.params.toList ds).all (· ≤ reachBytes) = true := hsz0
  clear hval0 hA0 hsz0
  rw [Try.params4] at hA hval hsz
  obtain ⟨v0, v1, v2, d0, d1, d2, p0, p1, p2, rfl, rfl, rfl, h0, h1, h2⟩ := trodAll_three hA
  obtain ⟨z0, rfl, hz0⟩ := arg_int _ _ Try.underlying3 (hval 0 _ v0 rfl rfl) h0 wf_i64
  obtain ⟨A1, n1, c1, xs1, rfl, r1, b1⟩ := arg_slice ops_acts Try.underlying22 (hval 1 _ v1 rfl rfl) h1 (weight_at hsz (j := 1) rfl rfl)
  obtain ⟨A2, n2, c2, xs2, rfl, r2, b2⟩ := arg_slice ops_bools Try.underlying32 (hval 2 _ v2 rfl rfl) h2 (weight_at hsz (j := 2) rfl rfl)
  exact shardDurable_walk W z0 A1 n1 c1 xs1 A2 n2 c2 xs2 r1 r2

/-- ShardDurable, for every input: the statement as it was given. -/
theorem shardDurable_holds : Rows.ShardDurableSaid :=
  OpenClaim.holds_of_wide 4 Try.f4 rfl rfl rfl rfl rfl rfl rfl ⟨rfl, rfl, rfl, rfl, rfl⟩ rfl rfl rfl rfl rfl (by kernel_rfl) Try.func4 (by kernel_rfl)
    (of_decide_eq_true (by kernel_rfl)) (by unfold Func.isWrapper; first | (rw [if_pos (by decide +kernel)]; kernel_rfl) | (rw [if_neg (by decide +kernel)]; exact ⟨rfl, rfl⟩))
    (fun os started H enc _ => shardDurable_lifted os started H enc)
end Go.Proofs.Ytfcfffilfmbpeaa
