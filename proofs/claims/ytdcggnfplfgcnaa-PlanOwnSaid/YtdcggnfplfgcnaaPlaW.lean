/- Layer 14: what the statements share: alive; the document's Read and Node; ints; arguments. -/
import Derived.Test.YtdcggnfplfgcnaaPlaO
import Derived.Test.YtdcggnfplfgcnaaPlaQ
set_option linter.all false
namespace Go.Proofs.Ytdcggnfplfgcnaa
open Go.ChangeShapes Go.WideShapes Go.ChangeAt Go.RowKit
namespace Pla
open Blo (I64 Dat Sml FitB Opl dat_own ns_get cons_eq cons_ne drop_of GotN AnsN OpV opShp toOp op_is nShp nsShp ns_of ops_op ops_ns)
open Sma (Pc Mp Mr mv runB run_mem Is ivs ivs_length nodeL findA iShp ops_int)

theorem own_ : ownKnob Try.prog.godebug = none := by kernel_rfl
theorem laidOut_ : laidOutB Try.prog = true := by kernel_rfl
/-! ### alive -/
def al2 : List Pc := [⟨0, 4, 0⟩, ⟨4, 7, 2⟩]
def alM : Mp := ⟨1, 7, al2⟩
def alO : BOp := ⟨2, 3, 2, []⟩
def alL : List Pt := [⟨0, 0, ⟨2, 3, 1, []⟩⟩, ⟨1, 2, ⟨2, 4, 1, []⟩⟩]
theorem al_e : opsE alM alO = 0 := by decide +kernel
theorem al_l : opsL alM alO = alL := by decide +kernel
theorem al_w : wholeA alL = (alO, 0) := by decide +kernel
theorem dat_nil (w : World) (o : BOp) (h : o.data = []) (hf : FitB o) : Dat w o none 0 0 := ⟨by rw [h]; exact Ns.nil, fun _ => ⟨rfl, rfl⟩, Nat.le_refl _, by omega, by omega, hf⟩
section
variable (w : World)
set_option maxRecDepth 100000 in
set_option maxHeartbeats 2000000 in
theorem alive_ : Calls Try.prog 18 #[] w fun e w' => e = .returned (.bool true) ∧ Below w.heap.size w w' := by
  have hb0 : Below w.heap.size w (w.alloc (.cells #[.int .i64 0, .int .i64 4, .int .i64 0, .int .i64 4, .int .i64 7, .int .i64 2] 72)) := (Below.refl w.heap.size w).alloc (Nat.le_refl _) _
  have hps := Sma.ps_two (w := w) (p := ⟨0, 4, 0⟩) (q := ⟨4, 7, 2⟩) ⟨by unfold Sma.I64; simp, by unfold Sma.I64; simp, by unfold Sma.I64; simp⟩ ⟨by unfold Sma.I64; simp, by unfold Sma.I64; simp, by unfold Sma.I64; simp⟩ rfl
  have hb1 : Below w.heap.size w ((w.alloc (.cells #[.int .i64 0, .int .i64 4, .int .i64 0, .int .i64 4, .int .i64 7, .int .i64 2] 72)).alloc (.cells #[.int .i64 1, .int .i64 7, .slice (some ⟨w.heap.size, 0, none⟩) 2 2] 33)) := hb0.alloc (by simp) _
  have hps1 := hps.alloc (.cells #[.int .i64 1, .int .i64 7, .slice (some ⟨w.heap.size, 0, none⟩) 2 2] 33)
  have hmr : Mr ((w.alloc (.cells #[.int .i64 0, .int .i64 4, .int .i64 0, .int .i64 4, .int .i64 7, .int .i64 2] 72)).alloc (.cells #[.int .i64 1, .int .i64 7, .slice (some ⟨w.heap.size, 0, none⟩) 2 2] 33)) alM (some ⟨w.heap.size, 0, none⟩) 2 2 := ⟨by unfold Sma.I64 alM; simp, by unfold Sma.I64 alM; simp, hps1, Nat.le_refl _, by omega, fun h => by cases h⟩
  have hfo : FitB alO := ⟨by unfold I64 alO; simp, by unfold I64 alO; simp, by unfold I64 alO; simp⟩
  clear hps hps1 hb0
  go_enter Try.func18, Try.ntmps18
  go_wp2_with fail
  refine (ops_ _ alM (some ⟨w.heap.size, 0, none⟩) 2 2 hmr alO none 0 0 (dat_nil _ alO rfl hfo)).mono ?_
  rw [al_e, al_l]
  rintro e w2 ⟨A2, n2, c2, L, rfl, hG, hL, hb2⟩
  have hB2 := below_step hb1 hb2 (Nat.le_refl _)
  have hp := hG.ptl
  have hn2 : n2 = 2 := by have := hp.len; rw [this, ← List.length_map (f := Prod.fst), hL]; rfl
  subst hn2
  have hw : wholeA (L.map Prod.fst) = (alO, 0) := by rw [hL, al_w]
  have Hw := Lib.hid hw
  obtain ⟨b, o, q, X, m, c, rfl, hx, -, -, -, c0, c1, c2', c3, c4, c5⟩ := hp.at_ (k := 1) (by omega)
  have hq : q = ⟨1, 2, ⟨2, 4, 1, []⟩⟩ := by
    have h1 : (L.map Prod.fst)[1]? = some q := by rw [List.getElem?_map, hx]; rfl
    rw [hL] at h1
    injection h1 with h1
    exact h1.symm
  subst hq
  clear hG hL hb1 hb2 hmr hw hx
  go_wp2_with fail
  refine (whole_ _ (some ⟨b, o, none⟩) 2 c2 L hp (by omega)).mono ?_
  rw [Hw.out]
  rintro e w3 ⟨d, rfl, hO, hb3⟩
  have c0' := (hb3.cell (cell_lt c0)).trans c0
  have c1' := (hb3.cell (cell_lt c1)).trans c1
  have c2'' := (hb3.cell (cell_lt c2')).trans c2'
  have c3' := (hb3.cell (cell_lt c3)).trans c3
  have hB3 := below_step hB2 hb3 (Nat.le_refl _)
  have hal := (Below.refl w3.heap.size w3).alloc (Nat.le_refl _) (oo alO d)
  have e0 := (hal.cell (cell_lt c0')).trans c0'
  have e1 := (hal.cell (cell_lt c1')).trans c1'
  have e2 := (hal.cell (cell_lt c2'')).trans c2''
  have e3 := (hal.cell (cell_lt c3')).trans c3'
  have hB4 := below_step hB3 hal (Nat.le_refl _)
  simp only [alO, Nat.one_mul] at e0 e1 e2 e3 hB4 ⊢
  obtain ⟨Xd, cd, rfl, -, -, -⟩ := own_form hO
  clear hp hO hb3 hal c0 c1 c2' c3 c4 c5 c0' c1' c2'' c3'
  go_wp2
  go_ret
  exact ⟨rfl, hB4⟩
set_option maxRecDepth 100000 in
set_option maxHeartbeats 1000000 in
/-- Some blocks of a volume, read by the document. -/
theorem rread_ (A : Option Addr) (n c : Nat) (v : List Nat) (h : Ns w A n v) (hnc : n ≤ c) (hc : c ≤ 9223372036854775807) (hn : n ≤ 1024) (k q : Nat) (hkq : k + q ≤ n) (hq : 0 < q) :
    Calls Try.prog 32 #[.slice A n c, .int .i64 (k : Int), .int .i64 (q : Int)] w fun e w' => AnsN w w' e 0 ((v.drop k).take q) := by
  obtain ⟨i0, hi0, hy0, hy1, hy2⟩ := u64_info
  have Hy := Lib.hid hy2
  clear hy2
  obtain ⟨g, o, _, rfl, _, _⟩ := Blo.ns_get h (i := 0) (by omega)
  have hm : manyB (n : Int) = true := by simp [manyB]; omega
  have hwi : inB (n : Int) (k : Int) (q : Int) = true := by simp [inB]; omega
  have hcut := ns_cut h hkq
  have Hlow := Lib.hid hcut.2
  clear h
  have t0 : ¬ (q : Int) < 0 := by omega
  have t1 : (k : Int) ≤ (n : Int) := by omega
  have t2 : ¬ c = k := by omega
  have t3 : (0 : Int) ≤ (k : Int) := by omega
  have t4 : IntKind.i64.wrap ((k : Int) + (q : Int)) = ((k + q : Nat) : Int) := by rw [IntKind.wrap_i64]; omega
  have t5 : ((k + q : Nat) : Int) ≤ (c : Int) := by omega
  have t6 : (k : Int) ≤ ((k + q : Nat) : Int) := by omega
  have t7 : k ≤ c := by omega
  have Ht8 := Lib.hid (show k + q - k = q by omega)
  have hq8 : (0 + (k + q - k)) * 8 ≤ 140737488355328 := by omega
  have hq63 : 0 + (k + q - k) ≤ maxLen := by unfold maxLen; omega
  have hqc : q ≤ c - k := by omega
  have hcut2 : Rd w (some ⟨g, o + k, none⟩) 1 (k + q - k) (nvs ((v.drop k).take q)) := by rw [Ht8.out]; exact hcut.1
  clear hcut
  go_enter Try.func32, Try.ntmps32
  go_wp2_with fail
  refine (Blo.rmany_ _ n (by unfold I64; omega)).mono ?_
  rw [hm]
  rintro e w2 ⟨rfl, rfl⟩
  go_wp2_with fail
  refine (Blo.rin_ _ n k q (by omega) (by unfold I64; omega) (by unfold I64; omega)).mono ?_
  rw [hwi]
  rintro e w2 ⟨rfl, rfl⟩
  go_wp2_with (first
    | (at_builtin
       go_must (refine wpList_app _ rfl (.const (.slice none 0 0)) (.tmp 27) _ rfl w.heap.size 64 i0 _ 1 8 Try.underlying25 hi0 hy0 hy1 Hy.out rfl Nat.one_pos (.slice none 0 0) 0 [] rfl (own_nil _ _ _ _) (some ⟨g, o + k, none⟩) (k + q - k) (c - k) _ rfl (fun h => some_ne h) hcut2 (nvs_one _) hq63 hq8 (Nat.le_refl _) ?_)
       intro v3 w3 hown3 hg3 hat3
       have hB3 : Below w.heap.size w w3 := (Below.refl _ _).grown hg3 (Nat.le_refl _) (fun j hj => by cases hj)
       rw [List.nil_append, Nat.zero_add, Ht8.out] at hown3
       obtain ⟨A', c', rfl, -, -, -⟩ := own_form hown3)
    | fail)
  go_ret2
  exact ⟨A', q, c', rfl, ⟨hown3, Hlow.out⟩, hB3⟩
set_option maxRecDepth 100000 in
set_option maxHeartbeats 1000000 in
/-- A block's node, by the document. -/
theorem rnodeAt_ (m : Mp) (A : Option Addr) (k c : Nat) (h : Mr w m A k c) (hr : m.right = true) (a : Int) (h0 : 0 ≤ a) (h1 : a < m.n) :
    Calls Try.prog 31 #[mv m A k c, .int .i64 a] w fun e w' => e = .returned (.int .i64 (nodeL a m.ps)) ∧ Below w.heap.size w w' := by
  obtain ⟨pre, p, post, hat⟩ := Sma.at_of hr h0 h1
  have hmn := (Sma.right_is hr).2.1
  have ha : Sma.I64 a := by unfold Sma.I64; omega
  have hb1 := (Below.refl w.heap.size w).alloc (Nat.le_refl _) (rmo m A k c)
  have hm1 := h.alloc (rmo m A k c)
  have k1 : Blk (w.alloc (rmo m A k c)) w.heap.size 24 #[.int .i64 m.v, .int .i64 m.n, .slice A k c] := Blk.new w _ _ rfl
  obtain ⟨m0, m1, m2, -, -, -⟩ := Sma.cells3 k1
  have HN := Lib.hid hat.node
  have hf := Sma.find_at hr hat
  have hlt := hat.lt
  have hgt := hat.get
  have hkl := h.len
  have hk16 := (right_nd hr).1
  generalize pre.length = j at *
  have hjk : (j : Int) < (k : Int) := by omega
  have hj0 : (0 : Int) ≤ (j : Int) := by omega
  clear h hkl hlt hk16
  go_enter Try.func31, Try.ntmps31
  go_wp2_with fail
  refine (Sma.rfind_ _ m A k c hm1 a ha).mono ?_
  rw [hf]
  rintro e w2 ⟨rfl, hb2⟩
  have hm2 := hm1.below hb2
  obtain ⟨b, o, rfl, p', hx, -, c0, c1, c2⟩ := hm2.ps.at_ (k := j) (by omega)
  have hpp : p' = p := by rw [hgt] at hx; injection hx with hx; exact hx.symm
  subst hpp
  clear m0 m1 m2
  obtain ⟨m0, m1, m2, -, -, -⟩ := Sma.cells3 (k1.keep hb2)
  simp only
  clear hf hgt hx hm1 hm2 k1
  go_wp2
  go_ret
  rw [HN.out]
  exact ⟨rfl, below_step hb1 hb2 (Nat.le_refl _)⟩
set_option maxRecDepth 100000 in
set_option maxHeartbeats 2000000 in
theorem rints_ (A B : Option Addr) (n m c d : Nat) (l : List Int) (ha : Is w A n l) (hb : Is w B m l) (hn : n ≤ 9223372036854775807) :
    Calls Try.prog 26 #[.slice A n c, .slice B m d] w fun e w' => e = .returned (.bool true) ∧ ∃ k, w' = w.drewN k := by
  have hnm : m = n := hb.len.trans ha.len.symm
  subst hnm
  have t0 : ((m : Int) != (m : Int)) = false := by simp
  go_enter Try.func26, Try.ntmps26
  go_wp2_with fail
  go_loopw [5] (fun iv wr => ∃ (k j : Nat), k ≤ m ∧ iv = .int .i64 (k : Int) ∧ wr = w.drewN j) (fun iv _ => m - (intOf iv).toNat)
  case atStart => exact ⟨0, 0, Nat.zero_le _, rfl, rfl⟩
  case round =>
    obtain ⟨k, j, hk, rfl, rfl⟩ := hrel
    by_cases hlt : k < m
    · have hil : (k : Int) < (m : Int) := by omega
      have hk0 : (0 : Int) ≤ (k : Int) := by omega
      obtain ⟨p, o, x, rfl, hx, -, cx⟩ := ha.get hlt
      obtain ⟨q, r, y, rfl, hy, -, cy⟩ := hb.get hlt
      rw [hx] at hy
      injection hy with hy
      subst hy
      have t1 : (x != x) = false := by simp
      clear ha hb hx
      go_wp2_with fail
      go_quiet (fail)
      go_wp2
      go_roundw
      case rel => exact ⟨k + 1, _, by omega, by go_num, rfl⟩
      case measure => simp [intOf]; omega
    · have hin : (m : Int) ≤ (k : Int) := by omega
      go_wp2
      go_ret
      exact ⟨rfl, j, rfl⟩
end
/-! ### arguments -/
abbrev TwoV : Type := Int × Int × Unit
def twoShp : Shp TwoV := Shp.agg (Shp.pair iShp (Shp.pair iShp Shp.unit))
theorem two_arr {w : World} {cs : Array Value} {v : TwoV} (h : twoShp.R w cs.toList v) : cs = #[.int .i64 v.1, .int .i64 v.2.1] ∧ I64 v.1 ∧ I64 v.2.1 := by
  obtain ⟨c1, r1, e1, hl1, ⟨h1, b1⟩, c2, r2, rfl, hl2, ⟨h2, b2⟩, h3⟩ := h
  have h3 : r2 = [] := h3
  subst h1 h2 h3
  exact ⟨Array.toList_inj.1 e1, b1, b2⟩
theorem ops_two : Opens Try.prog 28 twoShp := opens_arr2 Try.underlying28 (by kernel_rfl) ops_int
abbrev PtV : Type := Int × Int × OpV × Unit
def ptShp : Shp PtV := Shp.agg (Shp.pair iShp (Shp.pair iShp (Shp.pair opShp Shp.unit)))
def toPt (v : PtV) : Pt := ⟨v.1, v.2.1, toOp v.2.2.1⟩
theorem pt_is {w : World} {cs : List Value} {v : PtV} (h : ptShp.R w cs v) : ∃ X m c, cs = pv (toPt v) (.slice X m c) ∧ I64 v.1 ∧ I64 v.2.1 ∧ Dat w (toOp v.2.2.1) X m c := by
  obtain ⟨c1, r1, rfl, hl1, ⟨h1, b1⟩, c2, r2, rfl, hl2, ⟨h2, b2⟩, c3, r3, rfl, hl3, h3, h4⟩ := h
  have h4 : r3 = [] := h4
  subst h1 h2 h4
  obtain ⟨X, m, c, rfl, hd⟩ := op_is h3
  exact ⟨X, m, c, rfl, b1, b2, hd⟩
theorem pts_ptl {w : World} {A : Option Addr} {n c : Nat} {l : List PtV} (h : (Shp.slice ptShp 64).R w [.slice A n c] l) : ∃ L, Ptl w A n L ∧ n ≤ c ∧ c ≤ 9223372036854775807 := by
  obtain ⟨A', c', e, h1, h2, h3, h4, h5⟩ := h
  simp only [List.cons.injEq, Value.slice.injEq, and_true] at e
  obtain ⟨rfl, rfl, rfl⟩ := e
  have key : ∀ (l : List PtV), (∀ k (hk : k < l.length), ∃ X m c, I64 l[k].1 ∧ I64 l[k].2.1 ∧ Dat w (toOp l[k].2.2.1) X m c) → True := fun _ _ => trivial
  have hch : ∀ k : Nat, ∃ d : Value, ∀ hk : k < l.length, DatV w (toPt l[k]) d ∧ ∃ b o, A = some ⟨b, o, none⟩ ∧ ∀ j u, (pv (toPt l[k]) d)[j]? = some u → w.cell? ⟨b, o + k * 6 + j, none⟩ = some u := fun k => by
    by_cases hk : k < l.length
    · obtain ⟨b, o, vs, e1, hl, hc, hr⟩ := h5 k hk
      obtain ⟨X, m, cc, rfl, i1, i2, hd⟩ := pt_is hr
      have e6 : ptShp.n = 6 := rfl
      rw [e6] at hc
      exact ⟨.slice X m cc, fun _ => ⟨⟨i1, i2, X, m, cc, rfl, hd⟩, b, o, e1, hc⟩⟩
    · exact ⟨undef, fun h => absurd h hk⟩
  obtain ⟨f, hf⟩ := Classical.axiomOfChoice hch
  refine ⟨(List.range l.length).map fun k => (toPt (l.getD k (0, 0, (0, 0, 0, [], ()), ())), f k), ⟨⟨?_, fun j u hu => ?_⟩, fun p hp => ?_⟩, by omega, by omega⟩
  · rw [pvs_len]; simp
  · have hj : j < l.length * 6 := by have := (List.getElem?_eq_some_iff.1 hu).1; rw [pvs_len] at this; simpa using this
    obtain ⟨k, r, hk, hr6, rfl⟩ : ∃ k r, k < l.length ∧ r < 6 ∧ j = k * 6 + r := ⟨j / 6, j % 6, by omega, by omega, by omega⟩
    rw [pvs_at (by simpa using hk) hr6] at hu
    simp only [List.getElem_map, List.getElem_range, List.getD, List.getElem?_eq_getElem hk, Option.getD_some] at hu
    obtain ⟨_, b, o, e1, hc⟩ := hf k hk
    exact ⟨b, o, e1, by rw [← Nat.add_assoc]; exact hc r u hu⟩
  · obtain ⟨k, hk, rfl⟩ := List.mem_map.1 hp
    have hk := List.mem_range.1 hk
    simp only [List.getD, List.getElem?_eq_getElem hk, Option.getD_some]
    exact (hf k hk).1
theorem ops_pt : Opens Try.prog 85 ptShp :=
  opens_struct Try.underlying85 (by kernel_rfl) (opensF_cons ops_int rfl (opensF_cons ops_int rfl (opensF_cons ops_op rfl (opensF_nil _))))
theorem ops_pts : Opens Try.prog 35 (Shp.slice ptShp 64) := opens_slice 64 Try.underlying35 (by kernel_rfl) (by kernel_rfl) (by decide) ops_pt
theorem ops_nss : Opens Try.prog 45 (Shp.slice nsShp 24) := opens_slice 24 Try.underlying45 (by kernel_rfl) (by kernel_rfl) (by decide) ops_ns
theorem nss_of {w : World} {A : Option Addr} {n c : Nat} {l : List (List Nat)} (h : (Shp.slice nsShp 24).R w [.slice A n c] l) : Nss w A n l ∧ n ≤ c ∧ c ≤ 9223372036854775807 := by
  obtain ⟨A', c', e, h1, h2, h3, h4, h5⟩ := h
  simp only [List.cons.injEq, Value.slice.injEq, and_true] at e
  obtain ⟨rfl, rfl, rfl⟩ := e
  refine ⟨⟨rfl, fun k hk => ?_⟩, by omega, by omega⟩
  obtain ⟨b, o, vs, rfl, hl, hc, hr⟩ := h5 k hk
  have hr' := hr
  obtain ⟨A2, c2, e2, _⟩ := hr'
  subst e2
  obtain ⟨q1, q2, q3, q4, _⟩ := ns_of hr
  have := hc 0 _ rfl
  have e1 : nsShp.n = 1 := rfl
  rw [e1, Nat.mul_one, Nat.add_zero] at this
  exact ⟨b, o, A2, _, c2, rfl, this, q2, q4, q1⟩
end Pla
end Go.Proofs.Ytdcggnfplfgcnaa
