/- XBloQ, XBloR, XBloW. -/
import Derived.Test.YtganoklclnbjkaaBloO
set_option linter.all false
namespace Go.Proofs.Ytganoklclnbjkaa
open Go.RowKit
namespace Blo

theorem fun_zeros (n : Nat) : fun_ (List.replicate n 0) = fun _ => 0 := by
  funext i
  unfold fun_ List.getD
  cases h : (List.replicate n 0)[i.toNat]? with
  | none => rfl
  | some x => exact (List.eq_of_mem_replicate (List.mem_of_getElem? h))
theorem nvs_repl (n : Nat) : nvs (List.replicate n 0) = List.replicate n (.int .u64 0) := (nvs_zeros n).symm
section
variable (w : World)
end
end Blo
end Go.Proofs.Ytganoklclnbjkaa

set_option linter.all false
namespace Go.Proofs.Ytganoklclnbjkaa
open Go.RowKit
namespace Blo

theorem ns_get {w : World} {A : Option Addr} {n : Nat} {v : List Nat} (h : Ns w A n v) {i : Nat} (hi : i < n) : ∃ b o x, A = some ⟨b, o, none⟩ ∧ v[i]? = some x ∧ w.cell? ⟨b, o + i, none⟩ = some (.int .u64 (x : Int)) := by
  obtain ⟨b, o, e, hx, hc, _⟩ := h.at_ hi
  exact ⟨b, o, v[i], e, List.getElem?_eq_getElem hx, hc⟩
theorem cons_eq {α : Type} [DecidableEq α] (x : α) (l r : List α) : decide (x :: l = x :: r) = decide (l = r) := by simp
theorem cons_ne {α : Type} [DecidableEq α] {x y : α} (l r : List α) (h : x ≠ y) : decide (x :: l = y :: r) = false := by simp [h]
section
variable (w : World)
set_option maxRecDepth 100000 in
set_option maxHeartbeats 2000000 in
theorem words_ (A B : Option Addr) (n m c d : Nat) (a b : List Nat) (ha : Ns w A n a) (hb : Ns w B m b) (hn : n ≤ 9223372036854775807) :
    Calls Try.prog 17 #[.slice A n c, .slice B m d] w fun e w' => e = .returned (.bool (decide (a = b))) ∧ ∃ k, w' = w.drewN k := by
  have Han := Lib.hid ha.len
  have Hbm := Lib.hid hb.len
  obtain ⟨R, hR⟩ : ∃ R, decide (a = b) = R := ⟨_, rfl⟩
  rw [hR]
  by_cases hnm : n = m
  · subst hnm
    go_enter Try.func17, Try.ntmps17
    have HR := Lib.hid hR
    clear hR
    go_wp2_with fail
    go_loopw [5] (fun iv wr => ∃ (k j : Nat), k ≤ n ∧ iv = .int .i64 (k : Int) ∧ decide (a.drop k = b.drop k) = R ∧ wr = w.drewN j) (fun iv _ => n - (intOf iv).toNat)
    case atStart => exact ⟨0, 0, Nat.zero_le _, rfl, HR.out, rfl⟩
    case round =>
      obtain ⟨k, j, hk, rfl, hL, rfl⟩ := hrel
      by_cases hlt : k < n
      · have hil : (k : Int) < (n : Int) := by omega
        have hk0 : (0 : Int) ≤ (k : Int) := by omega
        obtain ⟨p, o, x, rfl, hx, cx⟩ := ns_get ha hlt
        obtain ⟨q, r, y, rfl, hy, cy⟩ := ns_get hb hlt
        rw [drop_of hx, drop_of hy] at hL
        clear ha hb hx hy
        by_cases hxy : x = y
        · subst hxy
          rw [cons_eq] at hL
          have HL := Lib.hid hL
          clear hL
          go_wp2_with fail
          go_quiet (fail)
          go_wp2
          go_roundw
          case rel => exact ⟨k + 1, _, by omega, by go_num, HL.out, rfl⟩
          case measure => simp [intOf]; omega
        · rw [cons_ne _ _ hxy] at hL
          subst hL
          have hxy2 : ((x : Int) == (y : Int)) = false := by simp; omega
          have hxy3 : ((x : Int) != (y : Int)) = true := by simp; omega
          clear hxy
          go_wp2_with fail
          go_quiet (fail)
          go_wp2
          go_ret
          exact ⟨rfl, j + nq, by simp⟩
      · have hin : (n : Int) ≤ (k : Int) := by omega
        have h1 : a.drop k = [] := List.drop_of_length_le (by have := Han.out; omega)
        have h2 : b.drop k = [] := List.drop_of_length_le (by have := Hbm.out; omega)
        rw [h1, h2] at hL
        have hL2 : true = R := by rw [← hL]; simp
        subst hL2
        clear h1 h2 hL
        go_wp2
        go_ret
        exact ⟨rfl, j, rfl⟩
  · have hR2 : R = false := by
      rw [← hR]
      simp only [decide_eq_false_iff_not]
      intro e
      exact hnm (by rw [Han.out, Hbm.out, e])
    subst hR2
    have h4 : ¬ (n : Int) = (m : Int) := by omega
    clear hR hnm
    go_enter Try.func17, Try.ntmps17
    go_wp2
    go_ret
    exact ⟨rfl, 0, rfl⟩
theorem words_at (n0 : Nat) (A B : Option Addr) (n m c d : Nat) (a : List Nat) (ha : Ns w A n a) (hb : Ns w B m a) (hn : n ≤ 9223372036854775807) :
    Calls Try.prog 17 #[.slice A n c, .slice B m d] (w.drewN n0) fun e w' => e = .returned (.bool true) ∧ ∃ k, w' = (w.drewN n0).drewN k := by
  have := words_ (w.drewN n0) A B n m c d a a (ha.drewN n0) (hb.drewN n0) hn
  rw [decide_eq_true (rfl : a = a)] at this
  exact this
end
end Blo
end Go.Proofs.Ytganoklclnbjkaa

set_option linter.all false
namespace Go.Proofs.Ytganoklclnbjkaa
open Go.ChangeShapes Go.WideShapes Go.ChangeAt Go.RowKit
namespace Blo

/-- A list of ops that was answered. -/
structure GotO (w : World) (B : Nat) (A : Option Addr) (m c : Nat) (l : List BOp) : Prop where
  own : ∃ L, Ol w B (.slice A m c) m L ∧ L.map Prod.fst = l
  sml : ∀ o ∈ l, Sml o
theorem GotO.keep {w w' : World} {B : Nat} {A : Option Addr} {m c : Nat} {l : List BOp} (h : GotO w B A m c l) (hb : Below w.heap.size w w') : GotO w' B A m c l := by
  obtain ⟨L, hO, hL⟩ := h.own
  exact ⟨⟨L, hO.keep hb, hL⟩, h.sml⟩
theorem GotO.len {w : World} {B : Nat} {A : Option Addr} {m c : Nat} {l : List BOp} (h : GotO w B A m c l) : m = l.length := by
  obtain ⟨L, hO, hL⟩ := h.own
  have := hO.len
  rw [← hL, List.length_map]
  exact this
theorem GotO.bounds {w : World} {B : Nat} {A : Option Addr} {m c : Nat} {l : List BOp} (h : GotO w B A m c l) : m ≤ c ∧ c ≤ 9223372036854775807 ∧ (A = none → m = 0 ∧ c = 0) := by
  obtain ⟨L, hO, hL⟩ := h.own
  obtain ⟨A', c', e, h1, h2, h3⟩ := own_form hO.row
  injection e with e1 _ e3
  subst e1 e3
  exact ⟨h1, by unfold maxLen at h2; omega, h3⟩
theorem GotO.os {w : World} {B : Nat} {A : Option Addr} {m c : Nat} {l : List BOp} (h : GotO w B A m c l) : Opl w A m l := by
  refine ⟨h.len, fun k hk => ?_⟩
  have hs := h.sml l[k] (List.getElem_mem hk)
  obtain ⟨L, hO, rfl⟩ := h.own
  have hk' : k < L.length := by simpa using hk
  have hd := hO.data L[k] (List.getElem_mem hk')
  simp only [List.getElem_map] at hs ⊢
  obtain ⟨X, c', e, h1, h2, h3⟩ := own_form hd
  have hrd := rd_own hO.row
  have g : ∀ j (u : Value), (ov4 L[k])[j]? = some u → ∃ b o, A = some ⟨b, o, none⟩ ∧ w.cell? ⟨b, o + k * 4 + j, none⟩ = some u := fun j u hu => by
    have hj : j < 4 := by have := (List.getElem?_eq_some_iff.1 hu).1; simpa using this
    obtain ⟨b, o, e, hc⟩ := hrd.2 (k * 4 + j) u (by rw [ovs_at hk' hj]; exact hu)
    exact ⟨b, o, e, by rw [Nat.add_assoc]; exact hc⟩
  obtain ⟨b, o, eA, c0⟩ := g 0 _ rfl
  have g' : ∀ j (u : Value), (ov4 L[k])[j]? = some u → w.cell? ⟨b, o + k * 4 + j, none⟩ = some u := fun j u hu => by
    obtain ⟨b', o', e', hc⟩ := g j u hu
    rw [eA] at e'
    injection e' with e'
    injection e' with e1 e2
    subst e1 e2
    exact hc
  have hm : L[k].1.data.length ≤ 64 := hs.short
  refine ⟨b, o, X, L[k].1.data.length, c', eA, c0, g' 1 _ rfl, g' 2 _ rfl, ?_, ?_⟩
  · rw [← e]; exact g' 3 _ rfl
  · rw [e] at hd
    exact dat_own hd hs
def AnsG (w w' : World) (e : Ending) (er : Int) (l : List BOp) : Prop := ∃ A m c, e = .returned (.tuple #[.slice A m c, .int .i64 er]) ∧ GotO w' w.heap.size A m c l ∧ Below w.heap.size w w'
theorem ansG {w w' : World} {e : Ending} {er : Int} {l : List BOp} (h : AnsO w w' e er l) (hs : ∀ o ∈ l, Sml o) : AnsG w w' e er l := by
  obtain ⟨A, m, c, L, he, hO, hL, hb⟩ := h
  exact ⟨A, m, c, he, ⟨⟨L, hO, hL⟩, hs⟩, hb⟩
theorem told_low {l : List BOp} (h : ∀ o ∈ l, ∀ z ∈ o.data, z < 18446744073709551616) : ∀ (i : Nat) x, told l (i : Int) = some x → x < 18446744073709551616 := fun i x hx => by
  have := foldl_low h low_zero (i : Int)
  rw [do_told, hx] at this
  exact this
theorem sqL_sml {n : Int} {l : List BOp} (h : ∀ o ∈ l, ∀ z ∈ o.data, z < 18446744073709551616) : ∀ o ∈ sqL n l, Sml o := by
  unfold sqL
  split
  · rename_i hc
    have hm := (Bool.and_eq_true_iff.1 hc).1
    simp only [manyB, Bool.and_eq_true, decide_eq_true_eq] at hm
    exact short_sml (told_low h) (by omega)
  · simp
theorem dfL_sml {a b : List Nat} (h : ∀ z ∈ b, z < 18446744073709551616) : ∀ o ∈ dfL a b, Sml o := by
  unfold dfL
  split
  · rename_i hc
    have hm := (Bool.and_eq_true_iff.1 hc).2
    split
    · exact short_sml (tof_low (fun_low h)) (many_nat hm)
    · simp
  · simp
section
variable (w : World)
end
/-- Two ops, laid in a new row. -/
theorem os_new2 {w : World} {x y : BOp} {X Y : Option Addr} {m c p d : Nat} {t : TypeId} {g : Nat} (hg : g = w.heap.size) (hx : Dat w x X m c) (hy : Dat w y Y p d) :
    Opl (w.alloc (.cells #[.int .i64 x.kind, .int .i64 x.off, .int .i64 x.len, .slice X m c, .int .i64 y.kind, .int .i64 y.off, .int .i64 y.len, .slice Y p d] t)) (some ⟨g, 0, none⟩) 2 [x, y] := by
  subst hg
  have hb : Below w.heap.size w (w.alloc (.cells #[.int .i64 x.kind, .int .i64 x.off, .int .i64 x.len, .slice X m c, .int .i64 y.kind, .int .i64 y.off, .int .i64 y.len, .slice Y p d] t)) := (Below.refl _ _).alloc (Nat.le_refl _) _
  have hn := Blk.new w t #[.int .i64 x.kind, .int .i64 x.off, .int .i64 x.len, .slice X m c, .int .i64 y.kind, .int .i64 y.off, .int .i64 y.len, .slice Y p d] rfl
  refine ⟨rfl, fun k hk => ?_⟩
  match k, hk with
  | 0, _ => exact ⟨_, 0, X, m, c, rfl, hn.cell rfl, hn.cell rfl, hn.cell rfl, hn.cell rfl, hx.below hb⟩
  | 1, _ => exact ⟨_, 0, Y, p, d, rfl, hn.cell rfl, hn.cell rfl, hn.cell rfl, hn.cell rfl, hy.below hb⟩
theorem os_new1 {w : World} {x : BOp} {X : Option Addr} {m c : Nat} {t : TypeId} {g : Nat} (hg : g = w.heap.size) (hx : Dat w x X m c) :
    Opl (w.alloc (.cells #[.int .i64 x.kind, .int .i64 x.off, .int .i64 x.len, .slice X m c] t)) (some ⟨g, 0, none⟩) 1 [x] := by
  subst hg
  have hb : Below w.heap.size w (w.alloc (.cells #[.int .i64 x.kind, .int .i64 x.off, .int .i64 x.len, .slice X m c] t)) := (Below.refl _ _).alloc (Nat.le_refl _) _
  have hn := Blk.new w t #[.int .i64 x.kind, .int .i64 x.off, .int .i64 x.len, .slice X m c] rfl
  refine ⟨rfl, fun k hk => ?_⟩
  match k, hk with
  | 0, _ => exact ⟨_, 0, X, m, c, rfl, hn.cell rfl, hn.cell rfl, hn.cell rfl, hn.cell rfl, hx.below hb⟩
theorem fit_small {k o l : Int} {d : List Nat} (h1 : I64 k) (h2 : I64 o) (h3 : I64 l) : FitB ⟨k, o, l, d⟩ := ⟨h1, h2, h3⟩

/-! ### alive -/
def aw : BOp := ⟨1, 1, 0, [5, 6]⟩
def at2 : BOp := ⟨2, 2, 1, []⟩
def aw1 : BOp := ⟨1, 1, 0, [5]⟩
theorem alive_e : sqE 9 [aw, at2] = 0 := by decide +kernel
theorem alive_l : sqL 9 [aw, at2] = [aw1, at2] := by decide +kernel
theorem dat_nil (w : World) (o : BOp) (h : o.data = []) (hf : FitB o) : Dat w o none 0 0 := ⟨by rw [h]; exact Ns.nil, fun _ => ⟨rfl, rfl⟩, Nat.le_refl _, by omega, by omega, hf⟩
theorem dat_new {w : World} {o : BOp} {n g : Nat} {C : Array Value} {t : TypeId} (hg : g = w.heap.size) (hC : C = (nvs o.data).toArray) (hn : n = o.data.length) (hl : ∀ z ∈ o.data, z < 18446744073709551616) (hs : o.data.length ≤ 64) (hf : FitB o) : Dat (w.alloc (.cells C t)) o (some ⟨g, 0, none⟩) n n :=
  ⟨Ns.new w o.data hl t hg hC hn, fun h => (by cases h), Nat.le_refl _, by omega, by omega, hf⟩
theorem i64_small {z : Int} (h0 : 0 ≤ z) (h1 : z ≤ 1024) : I64 z := by unfold I64; omega
theorem fit_aw : FitB aw := ⟨i64_small (by decide) (by decide), i64_small (by decide) (by decide), i64_small (by decide) (by decide)⟩
theorem fit_at2 : FitB at2 := ⟨i64_small (by decide) (by decide), i64_small (by decide) (by decide), i64_small (by decide) (by decide)⟩
theorem fit_aw1 : FitB aw1 := ⟨i64_small (by decide) (by decide), i64_small (by decide) (by decide), i64_small (by decide) (by decide)⟩
theorem own_ : ownKnob Try.prog.godebug = none := by kernel_rfl
theorem laidOut_ : laidOutB Try.prog = true := by kernel_rfl

theorem apE_ok {n : Nat} {l : List BOp} (h : apE n l = 0) : manyB n = true ∧ l.all (·.right (n : Int)) = true := by
  unfold apE at h
  split at h
  · rename_i h1
    split at h
    · rename_i h2; exact ⟨h1, h2⟩
    · cases h
  · cases h
theorem apL_ok {v : List Nat} {l : List BOp} (h1 : manyB v.length = true) (h2 : l.all (·.right (v.length : Int)) = true) : apL v l = vol v.length (l.foldl doF (fun_ v)) := by
  unfold apL
  rw [if_pos h1, if_pos h2]
theorem apL_no {v : List Nat} {l : List BOp} {n : Nat} (hn : n = v.length) (h : apE n l ≠ 0) : apL v l = [] := by
  subst hn
  unfold apE at h
  unfold apL
  split
  · rename_i h1
    rw [if_pos h1] at h
    split
    · rename_i h2; rw [if_pos h2] at h; exact absurd rfl h
    · rfl
  · rfl
theorem apE_of {n : Nat} {l : List BOp} (h1 : manyB n = true) (h2 : l.all (·.right (n : Int)) = true) : apE n l = 0 := by unfold apE; rw [if_pos h1, if_pos h2]
theorem sqE_of {n : Nat} {l : List BOp} (h1 : manyB n = true) (h2 : l.all (·.right (n : Int)) = true) : sqE n l = 0 := by unfold sqE; rw [h1, h2]; rfl
theorem sqL_of {n : Nat} {l : List BOp} (h1 : manyB n = true) (h2 : l.all (·.right (n : Int)) = true) : sqL n l = shortS (fun i => told l (i : Int)) n := by unfold sqL; rw [h1, h2]; rfl
theorem short_right {m : Nat → Option Nat} {n : Nat} (h1 : manyB n = true) : (shortS m n).all (·.right (n : Int)) = true := List.all_eq_true.2 fun o ho => short_ok (many_nat h1) o ho
/-- What some ops make of a volume hangs on it, and on what is told of its blocks, alone. -/
theorem vol_told {n : Nat} {l l' : List BOp} {f g : Int → Nat} (h : ∀ i : Nat, i < n → (told l (i : Int)).getD (f (i : Int)) = (told l' (i : Int)).getD (g (i : Int))) : vol n (l.foldl doF f) = vol n (l'.foldl doF g) :=
  vol_congr fun i hi => by rw [do_told, do_told, h i hi]
theorem fun_vol {n : Nat} {f : Int → Nat} {i : Nat} (hi : i < n) : fun_ (vol n f) (i : Int) = f (i : Int) := by
  unfold fun_ List.getD
  rw [Int.toNat_natCast, vol_at f hi]
  rfl
/-- Told shortly, ops do the same. -/
theorem vol_short {n : Nat} (l : List BOp) (f : Int → Nat) : vol n ((shortS (fun i => told l (i : Int)) n).foldl doF f) = vol n (l.foldl doF f) :=
  vol_told fun i hi => by rw [short_told, if_pos hi]
theorem vol_again {n : Nat} (l : List BOp) (f : Int → Nat) : vol n (l.foldl doF (fun_ (vol n (l.foldl doF f)))) = vol n (l.foldl doF f) :=
  vol_told fun i hi => by
    rw [fun_vol hi, do_told]
    cases told l (i : Int) <;> rfl

/-! ### arguments -/
abbrev OpV : Type := Int × Int × Int × List Nat × Unit
def iShp : Shp Int := Shp.int .i64 (-9223372036854775808) 9223372036854775807
abbrev nShp : Shp Nat := Shp.nat .u64 18446744073709551616
abbrev nsShp : Shp (List Nat) := Shp.slice nShp 8
def opShp : Shp OpV := Shp.agg (Shp.pair iShp (Shp.pair iShp (Shp.pair iShp (Shp.pair nsShp Shp.unit))))
def toOp (v : OpV) : BOp := ⟨v.1, v.2.1, v.2.2.1, v.2.2.2.1⟩
theorem ns_of {w : World} {A : Option Addr} {n c : Nat} {l : List Nat} (h : nsShp.R w [.slice A n c] l) : Ns w A n l ∧ n ≤ c ∧ (A = none → n = 0 ∧ c = 0) ∧ c ≤ 9223372036854775807 ∧ c * 8 ≤ 140737488351232 := by
  obtain ⟨A', c', e, h1, h2, h3, h4, h5⟩ := h
  simp only [List.cons.injEq, Value.slice.injEq, and_true] at e
  obtain ⟨rfl, rfl, rfl⟩ := e
  refine ⟨⟨⟨by simp [nvs], fun j u hu => ?_⟩, fun z hz => ?_⟩, h1, fun h => ⟨by have := h4 h; omega, h4 h⟩, h2, h3⟩
  · have hj : j < l.length := by have := (List.getElem?_eq_some_iff.1 hu).1; simpa [nvs] using this
    obtain ⟨b, o, vs, rfl, hl, hc, hr⟩ := h5 j hj
    obtain ⟨rfl, _⟩ := hr
    refine ⟨b, o, rfl, ?_⟩
    have := hc 0 _ rfl
    simp only [nShp, Shp.nat, Nat.mul_one, Nat.add_zero] at this
    rw [this, ← hu]
    simp [nvs, List.getElem?_eq_getElem hj]
  · obtain ⟨k, hk, rfl⟩ := List.getElem_of_mem hz
    obtain ⟨b, o, vs, rfl, hl, hc, hr⟩ := h5 k hk
    exact hr.2
theorem op_is {w : World} {cs : List Value} {v : OpV} (h : opShp.R w cs v) : ∃ X m c, cs = ov4 (toOp v, .slice X m c) ∧ Dat w (toOp v) X m c := by
  obtain ⟨c1, r1, rfl, hl1, ⟨h1, b1⟩, c2, r2, rfl, hl2, ⟨h2, b2⟩, c3, r3, rfl, hl3, ⟨h3, b3⟩, c4, r4, rfl, hl4, h4, h5⟩ := h
  have h5 : r4 = [] := h5
  subst h1 h2 h3 h5
  have h4' : nsShp.R w c4 v.2.2.2.1 := h4
  obtain ⟨X, c, e, _⟩ := h4
  subst e
  obtain ⟨n1, n2, n3, n4, n5⟩ := ns_of h4'
  exact ⟨X, _, c, rfl, ⟨n1, n3, n2, n4, by omega, ⟨b1, b2, b3⟩⟩⟩
theorem op_arr {w : World} {cs : Array Value} {v : OpV} (h : opShp.R w cs.toList v) : ∃ X m c, cs = #[.int .i64 (toOp v).kind, .int .i64 (toOp v).off, .int .i64 (toOp v).len, .slice X m c] ∧ Dat w (toOp v) X m c := by
  obtain ⟨X, m, c, hcs, hd⟩ := op_is h
  exact ⟨X, m, c, Array.toList_inj.1 (by rw [hcs]), hd⟩
theorem ops_os {w : World} {A : Option Addr} {n c : Nat} {l : List OpV} (h : (Shp.slice opShp 48).R w [.slice A n c] l) : Opl w A n (l.map toOp) ∧ n ≤ c ∧ c ≤ 9223372036854775807 := by
  obtain ⟨A', c', e, h1, h2, h3, h4, h5⟩ := h
  simp only [List.cons.injEq, Value.slice.injEq, and_true] at e
  obtain ⟨rfl, rfl, rfl⟩ := e
  refine ⟨⟨by simp, fun k hk => ?_⟩, h1, h2⟩
  have hk' : k < l.length := by simpa using hk
  obtain ⟨b, o, vs, rfl, hl, hc, hr⟩ := h5 k hk'
  obtain ⟨X, m, c, rfl, hd⟩ := op_is hr
  have e4 : opShp.n = 4 := rfl
  rw [e4] at hc
  simp only [List.getElem_map]
  exact ⟨b, o, X, m, c, rfl, hc 0 _ rfl, hc 1 _ rfl, hc 2 _ rfl, hc 3 _ rfl, hd⟩
theorem ops_int : Opens Try.prog 3 iShp := opens_int _ _ Try.underlying3 (by kernel_rfl) wf_i64
theorem ops_nat : Opens Try.prog 62 nShp := opens_nat _ Try.underlying62 (by kernel_rfl) wf_u64
theorem ops_ns : Opens Try.prog 27 nsShp := opens_slice 8 Try.underlying27 (by kernel_rfl) (by kernel_rfl) (by decide) ops_nat
theorem ops_op : Opens Try.prog 67 opShp :=
  opens_struct Try.underlying67 (by kernel_rfl) (opensF_cons ops_int rfl (opensF_cons ops_int rfl (opensF_cons ops_int rfl (opensF_cons ops_ns rfl (opensF_nil _)))))
theorem ops_ops : Opens Try.prog 22 (Shp.slice opShp 48) := opens_slice 48 Try.underlying22 (by kernel_rfl) (by kernel_rfl) (by decide) ops_op
end Blo
end Go.Proofs.Ytganoklclnbjkaa
