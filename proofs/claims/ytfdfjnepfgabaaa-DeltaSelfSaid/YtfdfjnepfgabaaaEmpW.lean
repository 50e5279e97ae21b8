/- XEmpU, XEmpV, XEmpW. -/
import Derived.Test.YtfdfjnepfgabaaaEmpQ
import Derived.Laws.StructEq
set_option linter.all false
namespace Go.Proofs.Ytfdfjnepfgabaaa
open Go.RowKit

/-- What At is asked for, of any list. -/
def atR (l : List Ext) (o : Int) : Option (Int × Int) := if rightB l then atL l o else none

section
variable (w : World)
set_option maxRecDepth 100000 in
theorem neq_ext (a b c d : Int) (w : World) : (binOp .neq 57 (.agg #[.int .i64 a, .int .i64 b, .int .i64 c, .int .i64 d]) (.agg #[.int .i64 a, .int .i64 b, .int .i64 c, .int .i64 d])).run Try.prog w = .ok (.bool false) w := by
  have hu := Try.underlying57
  obtain ⟨fs, hf⟩ : ∃ fs, Try.prog.fieldsOf 57 = fs := ⟨_, rfl⟩
  have hf' := hf
  unfold Program.fieldsOf at hf'
  rw [hu] at hf'
  simp only at hf'
  subst hf'
  have hi : Try.prog.underlying 3 = some (.int .i64) := Try.underlying3
  have he : (Op.equalIn 10000 57 (.agg #[.int .i64 a, .int .i64 b, .int .i64 c, .int .i64 d]) (.agg #[.int .i64 a, .int .i64 b, .int .i64 c, .int .i64 d])).run Try.prog w = .ok true w := by
    rw [run_equalIn_struct w 9999 57 _ _ (by rw [hf, hu]) (by kernel_rfl), hf]
    have q : ∀ z, (Op.equalIn 9999 3 (.int .i64 z) (.int .i64 z)).run Try.prog w = .ok true w := fun z => by
      rw [run_equalIn_int w 9998 3 .i64 .i64 z z hi]; simp
    simp [Op.eqFields, go_sem, q]
  simp only [binOp]
  simp [Op.equal, Op.maxDepth, he]
/-- Lists that are the same. -/
theorem at_pair {w : World} {A B : Option Addr} {n m : Nat} {l : List Ext} (ha : Es w A n l) (hb : Es w B m l) {k : Nat} (hk : k < n) :
    ∃ p o q r x, A = some ⟨p, o, none⟩ ∧ B = some ⟨q, r, none⟩ ∧ Fit x ∧ w.cell? ⟨p, o + k * 4, none⟩ = some (.int .i64 x.off) ∧ w.cell? ⟨p, o + k * 4 + 1, none⟩ = some (.int .i64 x.len) ∧ w.cell? ⟨p, o + k * 4 + 2, none⟩ = some (.int .i64 x.phys) ∧ w.cell? ⟨p, o + k * 4 + 3, none⟩ = some (.int .i64 x.birth) ∧
      w.cell? ⟨q, r + k * 4, none⟩ = some (.int .i64 x.off) ∧ w.cell? ⟨q, r + k * 4 + 1, none⟩ = some (.int .i64 x.len) ∧ w.cell? ⟨q, r + k * 4 + 2, none⟩ = some (.int .i64 x.phys) ∧ w.cell? ⟨q, r + k * 4 + 3, none⟩ = some (.int .i64 x.birth) := by
  have hnm : n = m := ha.len.trans hb.len.symm
  obtain ⟨p, o, e, x, hx, fx, c0, c1, c2, c3⟩ := ha.at_ hk
  obtain ⟨q, r, e', y, hy, fy, d0, d1, d2, d3⟩ := hb.at_ (k := k) (by omega)
  rw [hx] at hy
  injection hy with hy
  subst hy
  exact ⟨p, o, q, r, x, e, e', fx, c0, c1, c2, c3, d0, d1, d2, d3⟩
end
end Go.Proofs.Ytfdfjnepfgabaaa

set_option linter.all false
namespace Go.Proofs.Ytfdfjnepfgabaaa
open Go.RowKit

theorem some_ne {a : Addr} {q : Prop} (h : some a = none) : q := by cases h
theorem ev_one (x : Ext) : ∀ u ∈ ev x, u.oneCell' = true := fun u hu => evs_one [x] u (by simpa [evs] using hu)
theorem mays_put {l : List Ext} {x : Ext} (h : rightB l = true) (hx : x.may = true) : mays (partL l 0 x.off ++ x :: partL l (x.off + x.len) 1024) := by
  have hm := mays_right h
  intro y hy
  have hp : ∀ {a b : Int}, ∀ z ∈ partL l a b, z.may = true := fun z hz => by
    obtain ⟨u, hu, hc⟩ := List.mem_filterMap.1 hz
    exact clip_may (hm u hu) hc
  rcases List.mem_append.1 hy with hy | hy
  · exact hp y hy
  · rcases List.mem_cons.1 hy with rfl | hy
    · exact hx
    · exact hp y hy
section
variable (w : World)
set_option maxRecDepth 100000 in
set_option maxHeartbeats 4000000 in
theorem rput_ok (A : Option Addr) (n c : Nat) (l : List Ext) (x : Ext) (h : Es w A n l) (hr : rightB l = true) (hm : x.may = true) :
    Calls Try.prog 23 #[.slice A n c, .agg #[.int .i64 x.off, .int .i64 x.len, .int .i64 x.phys, .int .i64 x.birth]] w fun e w' => ∃ v m, e = .returned (.tuple #[v, .int .i64 0]) ∧ Eo w' w.heap.size v m (putL l x) ∧ Below w.heap.size w w' := by
  obtain ⟨i0, hi0, hz0, hz1, hz2⟩ := ext_info
  have Hz := Lib.hid hz2
  clear hz2
  have hlen := h.len
  have hsh := right_short hr
  have fx := fit_of hm
  have hxl := may_len hm
  have hml := mays_right hr
  have hac := Blk.new w 57 #[.int .i64 x.off, .int .i64 x.len, .int .i64 x.phys, .int .i64 x.birth] rfl
  have hba : Below w.heap.size w (w.alloc (.cells #[.int .i64 x.off, .int .i64 x.len, .int .i64 x.phys, .int .i64 x.birth] 57)) := (Below.refl _ _).alloc (Nat.le_refl _) _
  have hs1 : (w.alloc (.cells #[.int .i64 x.off, .int .i64 x.len, .int .i64 x.phys, .int .i64 x.birth] 57)).heap.size = w.heap.size + 1 := by simp
  have h1 := h.below hba
  have hn : n ≤ 1024 := by omega
  have Hwl := Lib.hid (show IntKind.i64.wrap (x.off + x.len) = x.off + x.len by rw [IntKind.wrap_i64]; omega)
  have HM := Lib.hid (mays_put hr hm)
  clear hlen hsh h
  go_enter Try.func23, Try.ntmps23
  go_wp2_with fail
  refine (rright_ _ A n c l h1 (by omega)).mono ?_
  rw [hr]
  rintro e w2 ⟨rfl, hb2⟩
  generalize (w.alloc (.cells #[.int .i64 x.off, .int .i64 x.len, .int .i64 x.phys, .int .i64 x.birth] 57)) = w1 at *
  have hac2 := hac.keep hb2
  have d0 := hac2.cell (j := 0) (u := .int .i64 x.off) rfl
  have d1 := hac2.cell (j := 1) (u := .int .i64 x.len) rfl
  have d2 := hac2.cell (j := 2) (u := .int .i64 x.phys) rfl
  have d3 := hac2.cell (j := 3) (u := .int .i64 x.birth) rfl
  go_wp2_with fail
  refine (rmay_ _ x fx).mono ?_
  rw [hm]
  rintro e w3 ⟨rfl, hb3⟩
  clear d0 d1 d2 d3
  have hb13 := below_step hb2 hb3 (Nat.le_refl _)
  have hac3 := hac.keep hb13
  have d0 := hac3.cell (j := 0) (u := .int .i64 x.off) rfl
  have d1 := hac3.cell (j := 1) (u := .int .i64 x.len) rfl
  have d2 := hac3.cell (j := 2) (u := .int .i64 x.phys) rfl
  have d3 := hac3.cell (j := 3) (u := .int .i64 x.birth) rfl
  have h3 := h1.below hb13
  have hs13 := hb13.size
  have hx3 := hac3.lt
  go_wp2_with fail
  have hz64 : I64 0 := by unfold I64; omega
  have hn5 : n ≤ 50000 := by omega
  have hmx : ∀ k, k ≤ n → k + 1 ≤ maxLen := fun k hk => by unfold maxLen; omega
  have hby : ∀ k, k ≤ n → (k + 1) * 32 ≤ 140737488355328 := fun k hk => by omega
  go_region_held3 (fun w' => w'.cell? ⟨w.heap.size, 0, none⟩ = some (.int .i64 x.off) ∧ w'.cell? ⟨w.heap.size, 1, none⟩ = some (.int .i64 x.len) ∧ w'.cell? ⟨w.heap.size, 2, none⟩ = some (.int .i64 x.phys) ∧ w'.cell? ⟨w.heap.size, 3, none⟩ = some (.int .i64 x.birth))
    (first | exact ⟨d0, d1, d2, d3⟩ | exact ⟨k0, k1, k2, k3⟩ | exact ⟨e0, e1, e2, e3⟩ | go_keep)
    (first
      | (go_at_call 42
         refine (rpart_ _ A n c l 0 x.off hz64 fx.off (h3.drew) hml hn5).mono ?_
         rintro e w4 ⟨v1, m1, rfl, ho1, hmm1, hm1, hb4⟩
         have hB4 : Below w1.heap.size w1 w4 := below_step hb13 (below_undrew hb4) (Nat.le_refl _)
         have ho4 : Eo w4 w1.heap.size v1 m1 (partL l 0 x.off) := ho1.mono hs13
         have hac4 := hac.keep hB4
         have e0 := hac4.cell (j := 0) (u := .int .i64 x.off) rfl
         have e1 := hac4.cell (j := 1) (u := .int .i64 x.len) rfl
         have e2 := hac4.cell (j := 2) (u := .int .i64 x.phys) rfl
         have e3 := hac4.cell (j := 3) (u := .int .i64 x.birth) rfl)
      | (go_at_call 42
         refine (rpart_ _ A n c l 0 x.off hz64 fx.off ((h3.alloc _).drew) hml hn5).mono ?_
         rintro e w4 ⟨v1, m1, rfl, ho1, hmm1, hm1, hb4⟩
         have hB4 : Below w1.heap.size w1 w4 := below_step (hb13.alloc hb13.size _) (below_undrew hb4) (Nat.le_refl _)
         have ho4 : Eo w4 w1.heap.size v1 m1 (partL l 0 x.off) := ho1.mono (hb13.alloc hb13.size _).size
         have hrd : Rd w4 (some ⟨w3.heap.size, 0, none⟩) 4 1 (ev x) := (rd_one rfl).below (below_undrew hb4)
         have hac4 := hac.keep hB4
         have e0 := hac4.cell (j := 0) (u := .int .i64 x.off) rfl
         have e1 := hac4.cell (j := 1) (u := .int .i64 x.len) rfl
         have e2 := hac4.cell (j := 2) (u := .int .i64 x.phys) rfl
         have e3 := hac4.cell (j := 3) (u := .int .i64 x.birth) rfl)
      | (refine step_app _ rfl (.tmp 18) (.tmp 20) _ rfl w1.heap.size 57 i0 _ 4 32 Try.underlying22 hi0 hz0 hz1 Hz.out rfl (Nat.zero_lt_succ 3) v1 m1 _ rfl (own_keep ho4 ((Below.refl _ _).alloc (Nat.le_refl _) _)) _ 1 1 (ev x) rfl (fun h => some_ne h) (rd_one rfl) (ev_one x) (hmx m1 hm1) (hby m1 hm1) (hB4.alloc hB4.size _).size ?_
         intro v5 w5 hown5 hg5 hat5
         have hB5 : Below w1.heap.size w1 w5 := (hB4.alloc hB4.size _).grown hg5 (hB4.alloc hB4.size _).size (own_from ho4)
         have hac5 := hac.keep hB5
         have k0 := hac5.cell (j := 0) (u := .int .i64 x.off) rfl
         have k1 := hac5.cell (j := 1) (u := .int .i64 x.len) rfl
         have k2 := hac5.cell (j := 2) (u := .int .i64 x.phys) rfl
         have k3 := hac5.cell (j := 3) (u := .int .i64 x.birth) rfl)
      | (refine step_app _ rfl (.tmp 18) (.tmp 20) _ rfl w1.heap.size 57 i0 _ 4 32 Try.underlying22 hi0 hz0 hz1 Hz.out rfl (Nat.zero_lt_succ 3) v1 m1 _ rfl ho4 _ 1 1 (ev x) rfl (fun h => some_ne h) hrd (ev_one x) (hmx m1 hm1) (hby m1 hm1) hB4.size ?_
         intro v5 w5 hown5 hg5 hat5
         have hB5 : Below w1.heap.size w1 w5 := hB4.grown hg5 hB4.size (own_from ho4)
         have hac5 := hac.keep hB5
         have k0 := hac5.cell (j := 0) (u := .int .i64 x.off) rfl
         have k1 := hac5.cell (j := 1) (u := .int .i64 x.len) rfl
         have k2 := hac5.cell (j := 2) (u := .int .i64 x.phys) rfl
         have k3 := hac5.cell (j := 3) (u := .int .i64 x.birth) rfl))
  all_goals
    have ho5 : Eo w5 w1.heap.size v5 (m1 + 1) (partL l 0 x.off ++ [x]) := eo_of hown5 (evs_snoc _ _).symm
    have h5 := h1.below hB5
    have hw := Hwl.out
    clear hown5 hg5 hat5 d0 d1 d2 d3 e0 e1 e2 e3 ho1 ho4 hb4 hB4
    go_wp2_with fail
    refine (rpart_ w5 A n c l (x.off + x.len) 1024 (by unfold I64; omega) (by unfold I64; omega) h5 hml hn5).mono ?_
    rintro e w6 ⟨v6, m6, rfl, ho6, hmm6, hm6, hb6⟩
    have hB6 := below_step hB5 hb6 (Nat.le_refl _)
    have ho56 := own_keep ho5 hb6
    obtain ⟨A5, c5, rfl, -, -, -⟩ := own_form ho5
    obtain ⟨A6, c6, rfl, hc6, hm6x, hA6⟩ := own_form ho6
    go_wp2_with (first
      | (at_builtin
         go_must (refine wpList_app _ rfl (.tmp 22) (.tmp 29) _ rfl w1.heap.size 57 i0 _ 4 32 Try.underlying22 hi0 hz0 hz1 Hz.out rfl (Nat.zero_lt_succ 3) _ (m1 + 1) _ rfl ho56 _ m6 c6 _ rfl (fun h => (hA6 h).1) (rd_own ho6) (evs_one _) (by unfold maxLen; omega) (by omega) hB6.size ?_)
         intro v7 w7 hown7 hg7 hat7
         have ho7 : Eo w7 w1.heap.size v7 (m1 + 1 + m6) (partL l 0 x.off ++ x :: partL l (x.off + x.len) 1024) := eo_of hown7 (by rw [← evs_app]; simp)
         have hB7 : Below w1.heap.size w1 w7 := hB6.grown hg7 hB6.size (own_from ho56)
         obtain ⟨A7, c7, rfl, -, -, -⟩ := own_form ho7))
    refine (rjoin_ w7 A7 (m1 + 1 + m6) c7 _ (eo_es ho7 (mays_fit HM.out)) HM.out (by omega)).mono ?_
    rintro e w8 ⟨v8, m8, rfl, ho8, -, hb8⟩
    go_wp2
    go_ret2
    have hB8 := below_step hB7 hb8 (Nat.le_refl _)
    exact ⟨v8, m8, rfl, ho8.mono (Nat.le_trans hba.size hB7.size), hba.trans (hB8.mono hba.size)⟩
end
end Go.Proofs.Ytfdfjnepfgabaaa

set_option linter.all false
namespace Go.Proofs.Ytfdfjnepfgabaaa
open Go.ChangeShapes Go.WideShapes Go.ChangeAt Go.RowKit

def errOf (b : Bool) : Int := if b then 0 else 1
def ifL (b : Bool) (l : List Ext) : List Ext := if b then l else []
/-- A list that was answered: in new memory from B on, of the call's own. -/
structure Got (w : World) (B : Nat) (A : Option Addr) (m c : Nat) (l : List Ext) : Prop where
  own : Eo w B (.slice A m c) m l
  mays : mays l
  le : m ≤ 9223372036854775807
theorem Got.es {w : World} {B : Nat} {A : Option Addr} {m c : Nat} {l : List Ext} (h : Got w B A m c l) : Es w A m l := eo_es h.own (mays_fit h.mays)
theorem Got.keep {w w' : World} {B : Nat} {A : Option Addr} {m c : Nat} {l : List Ext} (h : Got w B A m c l) (hb : Below w.heap.size w w') : Got w' B A m c l := ⟨own_keep h.own hb, h.mays, h.le⟩
theorem Got.drewN {w : World} {B : Nat} {A : Option Addr} {m c : Nat} {l : List Ext} (h : Got w B A m c l) (k : Nat) : Got (w.drewN k) B A m c l := ⟨h.own, h.mays, h.le⟩
theorem Got.mono {w : World} {B B' : Nat} {A : Option Addr} {m c : Nat} {l : List Ext} (h : Got w B A m c l) (hb : B' ≤ B) : Got w B' A m c l := ⟨h.own.mono hb, h.mays, h.le⟩
theorem Got.none (w : World) (B : Nat) : Got w B none 0 0 [] := ⟨eo_nil w B, mays_nil, by omega⟩
theorem got_of {w : World} {B : Nat} {v : Value} {m : Nat} {l : List Ext} (h : Eo w B v m l) (hm : mays l) : ∃ A c, v = .slice A m c ∧ Got w B A m c l := by
  obtain ⟨A, c, rfl, h1, h2, h3⟩ := own_form h
  exact ⟨A, c, rfl, h, hm, by unfold maxLen at h2; omega⟩
/-- What a call answers: a list and an error's number. -/
def Ans (w w' : World) (e : Ending) (er : Int) (l : List Ext) : Prop := ∃ A m c, e = .returned (.tuple #[.slice A m c, .int .i64 er]) ∧ Got w' w.heap.size A m c l ∧ Below w.heap.size w w'
theorem ans_no {w w' : World} {e : Ending} {b : Bool} {l : List Ext} (hb : b = false) (h : e = .returned (.tuple #[.slice none 0 0, .int .i64 1]) ∧ Below w.heap.size w w') : Ans w w' e (errOf b) (ifL b l) := by
  subst hb
  exact ⟨none, 0, 0, h.1, Got.none _ _, h.2⟩
theorem ans_ok {w w' : World} {e : Ending} {b : Bool} {l : List Ext} (hb : b = true) (hm : mays l) (h : ∃ v m, e = .returned (.tuple #[v, .int .i64 0]) ∧ Eo w' w.heap.size v m l ∧ Below w.heap.size w w') : Ans w w' e (errOf b) (ifL b l) := by
  subst hb
  obtain ⟨v, m, rfl, h1, h2⟩ := h
  obtain ⟨A, c, rfl, hg⟩ := got_of h1 hm
  exact ⟨A, m, c, rfl, hg, h2⟩
theorem mays_joinL {l : List Ext} (h : listB l = true) : mays (joinL l) := mays_list (join_is (lo := 0) h).1
theorem mays_putL {l : List Ext} {x : Ext} (h : rightB l = true) (hx : x.may = true) : mays (putL l x) := mays_right (put_is h hx).1
theorem mays_cutL {l : List Ext} {o k : Int} (h : rightB l = true) (hx : rangeB o k = true) : mays (cutL l o k) := mays_right (cut_is h hx).1
theorem mays_partL {l : List Ext} {o k : Int} (h : rightB l = true) (hx : rangeB o k = true) : mays (partL l o (o + k)) := mays_right (part_right h (range_is.1 hx).1)
theorem mays_sinceL {l : List Ext} {b : Int} (h : rightB l = true) : mays (sinceL l b) := fun x hx => mays_right h x (List.mem_filter.1 hx).1
theorem and_no {a b : Bool} (h : ¬ (a && b) = true) : (a && b) = false ∧ ¬ (a = true ∧ b = true) := ⟨by simpa using h, fun e => h (by rw [e.1, e.2]; rfl)⟩

section
variable (w : World) (A : Option Addr) (n c : Nat) (l : List Ext) (h : Es w A n l) (hn : n ≤ 9223372036854775807)
include h hn
theorem rput_ (x : Ext) (fx : Fit x) : Calls Try.prog 23 #[.slice A n c, .agg #[.int .i64 x.off, .int .i64 x.len, .int .i64 x.phys, .int .i64 x.birth]] w fun e w' => Ans w w' e (errOf (rightB l && x.may)) (ifL (rightB l && x.may) (putL l x)) := by
  by_cases hr : (rightB l && x.may) = true
  · have h2 := Bool.and_eq_true_iff.1 hr
    exact (rput_ok w A n c l x h h2.1 h2.2).mono fun _ _ q => ans_ok hr (mays_putL h2.1 h2.2) q
  · exact (rput_no w A n c l x h hn fx (and_no hr).2).mono fun _ _ q => ans_no (and_no hr).1 q
theorem rcut_ (o k : Int) (fo : I64 o) (fk : I64 k) : Calls Try.prog 24 #[.slice A n c, .int .i64 o, .int .i64 k] w fun e w' => Ans w w' e (errOf (rightB l && rangeB o k)) (ifL (rightB l && rangeB o k) (cutL l o k)) := by
  by_cases hr : (rightB l && rangeB o k) = true
  · have h2 := Bool.and_eq_true_iff.1 hr
    exact (rcut_ok w A n c l o k h h2.1 h2.2).mono fun _ _ q => ans_ok hr (mays_cutL h2.1 h2.2) q
  · exact (rcut_no w A n c l o k h hn fo fk (and_no hr).2).mono fun _ _ q => ans_no (and_no hr).1 q
end

/-! ### alive -/
def lv0 : List Ext := [⟨0, 4, 0, 0⟩]
def xv0 : Ext := ⟨1, 2, 9, 0⟩
def lv1 : List Ext := [⟨0, 1, 0, 0⟩, ⟨1, 2, 9, 0⟩, ⟨3, 1, 3, 0⟩]
theorem lv_right : rightB lv0 = true := by decide +kernel
theorem xv_may : xv0.may = true := by decide +kernel
theorem lv_put : putL lv0 xv0 = lv1 := by decide +kernel
theorem lv_at : atR lv1 3 = some (3, 0) := by decide +kernel
theorem lv1_right : rightB lv1 = true := by decide +kernel
theorem lv_fit : ∀ x ∈ lv0, Fit x := fun x hx => by
  simp only [lv0, List.mem_singleton] at hx
  subst hx
  exact fit_of (by decide +kernel)
theorem own_ : ownKnob Try.prog.godebug = none := by kernel_rfl
theorem laidOut_ : laidOutB Try.prog = true := by kernel_rfl

/-! ### arguments -/
abbrev ExtV : Type := Int × Int × Int × Int × Unit
def iShp : Shp Int := Shp.int .i64 (-9223372036854775808) 9223372036854775807
def extShp : Shp ExtV := Shp.agg (Shp.pair iShp (Shp.pair iShp (Shp.pair iShp (Shp.pair iShp Shp.unit))))
def toExt (v : ExtV) : Ext := ⟨v.1, v.2.1, v.2.2.1, v.2.2.2.1⟩
theorem ext_is {w : World} {cs : List Value} {v : ExtV} (h : extShp.R w cs v) : cs = ev (toExt v) ∧ Fit (toExt v) := by
  obtain ⟨c1, r1, rfl, hl1, ⟨h1, b1⟩, c2, r2, rfl, hl2, ⟨h2, b2⟩, c3, r3, rfl, hl3, ⟨h3, b3⟩, c4, r4, rfl, hl4, ⟨h4, b4⟩, h5⟩ := h
  have h5 : r4 = [] := h5
  subst h1 h2 h3 h4 h5
  exact ⟨rfl, ⟨b1, b2, b3, b4⟩⟩
theorem ext_arr {w : World} {cs : Array Value} {v : ExtV} (h : extShp.R w cs.toList v) : cs = #[.int .i64 (toExt v).off, .int .i64 (toExt v).len, .int .i64 (toExt v).phys, .int .i64 (toExt v).birth] ∧ Fit (toExt v) := by
  obtain ⟨hcs, r⟩ := ext_is h
  exact ⟨Array.toList_inj.1 (by rw [hcs]; rfl), r⟩
theorem exts_es {w : World} {A : Option Addr} {n c : Nat} {l : List ExtV} (h : (Shp.slice extShp 32).R w [.slice A n c] l) : Es w A n (l.map toExt) ∧ n ≤ c ∧ c * 32 ≤ 140737488351232 ∧ (A = none → c = 0) := by
  obtain ⟨A', c', e, h1, h2, h3, h4, h5⟩ := h
  simp only [List.cons.injEq, Value.slice.injEq, and_true] at e
  obtain ⟨rfl, rfl, rfl⟩ := e
  refine ⟨⟨⟨by rw [evs_len]; simp, fun j u hu => ?_⟩, fun x hx => ?_⟩, h1, h3, h4⟩
  · have hj : j < l.length * 4 := by
      have := (List.getElem?_eq_some_iff.1 hu).1
      rw [evs_len] at this
      simpa using this
    have hk : j / 4 < l.length := by omega
    obtain ⟨b, o, vs, rfl, hl, hc, hr⟩ := h5 (j / 4) hk
    obtain ⟨rfl, _⟩ := ext_is hr
    refine ⟨b, o, rfl, ?_⟩
    have hu2 : (evs (l.map toExt))[j / 4 * 4 + j % 4]? = some u := by rw [show j / 4 * 4 + j % 4 = j by omega]; exact hu
    rw [evs_at (l := l.map toExt) (k := j / 4) (by simpa using hk) (by omega)] at hu2
    simp only [List.getElem_map] at hu2
    have := hc (j % 4) u hu2
    have e4 : extShp.n = 4 := rfl
    rw [e4, Nat.add_assoc, show j / 4 * 4 + j % 4 = j by omega] at this
    exact this
  · obtain ⟨v, hv, rfl⟩ := List.mem_map.1 hx
    obtain ⟨k, hk, rfl⟩ := List.getElem_of_mem hv
    obtain ⟨b, o, vs, rfl, hl, hc, hr⟩ := h5 k hk
    exact (ext_is hr).2
theorem ops_int : Opens Try.prog 3 iShp := opens_int _ _ Try.underlying3 (by kernel_rfl) wf_i64
theorem ops_ext : Opens Try.prog 57 extShp :=
  opens_struct Try.underlying57 (by kernel_rfl) (opensF_cons ops_int rfl (opensF_cons ops_int rfl (opensF_cons ops_int rfl (opensF_cons ops_int rfl (opensF_nil _)))))
theorem ops_exts : Opens Try.prog 22 (Shp.slice extShp 32) := opens_slice 32 Try.underlying22 (by kernel_rfl) (by kernel_rfl) (by decide) ops_ext
end Go.Proofs.Ytfdfjnepfgabaaa
