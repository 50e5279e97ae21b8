/- The statements' own function full, of layer 3; scripts of calls, as arguments. -/
import Derived.Test.YtbppkdfmiegipaaDiskA
import Derived.Test.YtbppkdfmiegipaaZeros
namespace Go.Proofs.Ytbppkdfmiegipaa
open Go.ChangeShapes Go.WideShapes Go.ChangeAt Go.RowKit Go.Maps

abbrev strOf (xs : List UInt8) : Value := .string ⟨xs.toArray⟩
set_option maxRecDepth 100000 in
set_option maxHeartbeats 1000000 in
theorem full_ (A : Option Addr) (n c : Nat) (xs : List UInt8) (w : World) (hx : Bs w A n xs) (hA : A = none → n = 0 ∧ c = 0) (hn : n ≤ 64) :
    Calls Try.prog 29 #[.slice A n c] w fun e w' => e = .returned (strOf (pad xs)) ∧ Below w.heap.size w w' := by
  obtain ⟨i0, hi0, hz0, hz1, hz2⟩ := info_parts info_u8
  have Hz := Lib.hid hz2
  have Hn := Lib.hid hx.len
  have hsub : (64 : Int) - (n : Int) = ((64 - n : Nat) : Int) := by omega
  have Hsub := Lib.hid hsub
  clear hz2 hsub
  have hn' : (n : Int) ≤ 64 := by omega
  go_enter Try.func29, Try.ntmps29
  go_wp2_with (first
    | (at_builtin
       refine wpList_app _ rfl (.const (.slice none 0 0)) (.tmp 3) _ rfl w.heap.size 5 i0 (.int .u8 0) 1 1 Try.underlying34 hi0 hz0 hz1 Hz.out rfl Nat.one_pos (.slice none 0 0) 0 [] rfl (own_nil _ _ _ _) A n c _ rfl (fun h => (hA h).1) hx (bvs_one _) (by unfold maxLen; omega) (by omega) (Nat.le_refl _) ?_
       intro v1 w1 hown1 hg1 hat1
       rw [Nat.zero_add, List.nil_append] at hown1
       have hb1 : Below w.heap.size w w1 := grown_none_below hg1)
    | (at_builtin
       refine wpList_app_zeros _ rfl (.tmp 4) (.tmp 7) _ _ rfl w.heap.size 5 i0 (.int .u8 0) 1 .i64 .i64 Try.underlying34 Try.underlying3 hi0 hz0 hz1 Hz.out rfl rfl v1 n _ rfl hown1 _ (64 - n) rfl Hsub.out (by unfold maxLen; omega) (by omega) hb1.size ?_
       intro v2 w2 hown2 hg2 hat2
       rw [show n + (64 - n) = 64 by omega] at hown2
       obtain ⟨A2, c2, rfl, hc2, hm2, ha2⟩ := own_form hown2
       have hb2 : Below w.heap.size w w2 := hb1.trans (grown_below hg2 hb1.size (fun j hj => (hown1.lt j hj).1))
       have hown3 : w2.ownsRow w.heap.size 5 1 (.slice A2 64 c2) 64 (bvs (pad xs)) := by
         have e : bvs xs ++ List.replicate (64 - n) (.int .u8 0) = bvs (pad xs) := by
           rw [Hn.out]
           unfold pad
           rw [bvs_append]
           congr 1
           unfold bvs
           rw [List.map_replicate]
           rfl
         rw [e] at hown2
         exact hown2
       have k1 := run_str (bs_own hown3) (fun h => (ha2 h).1) 34 9 5 Try.underlying34 Try.underlying5 Try.underlying9 c2)
    | fail)
  go_ret
  exact ⟨rfl, hb2⟩

theorem and15 (z : Int) : ∃ r : Nat, bits .and .i64 z 15 = (r : Int) ∧ r ≤ 15 := by
  have h : ∀ q : Nat, q ≤ 15 → IntKind.i64.wrap (q : Int) = (q : Int) := fun q hq => by rw [IntKind.wrap_i64]; omega
  unfold bits
  simp only [BitVec.toNat_and, BitVec.toNat_ofInt]
  have e : ((15 : Int) % ((2 ^ IntKind.i64.bits : Nat) : Int)).toNat = 15 := by decide
  rw [e, h _ Nat.and_le_right]
  exact ⟨_, rfl, Nat.and_le_right⟩

theorem slot_mod (i : Int) (r : Nat) (hr : r ≤ 15) : ∃ J : Nat, (wrap64 (i.tmod ((r : Int) + 1) + ((r : Int) + 1))).tmod ((r : Int) + 1) = (J : Int) ∧ J < r + 1 := by
  have hk : (0 : Int) < (r : Int) + 1 := by omega
  have hb : -((r : Int) + 1) < i.tmod ((r : Int) + 1) ∧ i.tmod ((r : Int) + 1) < (r : Int) + 1 := by
    rw [tmod_eq_if]
    have h1 := Int.emod_nonneg i (show (r : Int) + 1 ≠ 0 by omega)
    have h2 := Int.emod_lt_of_pos i hk
    have h3 := Int.emod_nonneg (-i) (show (r : Int) + 1 ≠ 0 by omega)
    have h4 := Int.emod_lt_of_pos (-i) hk
    split <;> omega
  generalize i.tmod ((r : Int) + 1) = t at *
  have hw : wrap64 (t + ((r : Int) + 1)) = t + ((r : Int) + 1) := by
    unfold wrap64; omega
  rw [hw, tmod_eq_if, if_pos (by omega)]
  have h1 := Int.emod_nonneg (t + ((r : Int) + 1)) (show (r : Int) + 1 ≠ 0 by omega)
  have h2 := Int.emod_lt_of_pos (t + ((r : Int) + 1)) hk
  exact ⟨((t + ((r : Int) + 1)) % ((r : Int) + 1)).toNat, by omega, by omega⟩

/-- One block of the call's own has these bytes. -/
def One (w : World) (q : Nat) (xs : List UInt8) : Prop := Blk w q 63 (bvs xs).toArray
theorem one_str {q : Nat} {xs : List UInt8} (hx : xs.length = 64) : ∀ w, One w q xs → (convert 34 9 (.slice (some ⟨q, 0, none⟩) 64 64)).run Try.prog w = .ok (strOf xs) w := by
  intro w h
  have := bs_blk h
  rw [hx] at this
  exact run_str this (by simp) 34 9 5 Try.underlying34 Try.underlying5 Try.underlying9 64

/-- One call: its kind, its number, its bytes, its Booleans. -/
abbrev ActV : Type := UInt8 × Int × List UInt8 × List Bool × Unit
def actShp : Shp ActV := Shp.agg (Shp.pair Shp.u8 (Shp.pair (Shp.int .i64 (-9223372036854775808) 9223372036854775807) (Shp.pair (Shp.slice Shp.u8 1) (Shp.pair (Shp.slice Shp.bool 1) Shp.unit))))
/-- The cells cs are the call a. -/
def ActIs (w : World) (cs : List Value) (a : ActV) : Prop :=
  ∃ A n c B m d, cs = [.int .u8 (a.1.toNat : Int), .int .i64 a.2.1, .slice A n c, .slice B m d] ∧ Bs w A n a.2.2.1 ∧ (A = none → n = 0 ∧ c = 0) ∧ n ≤ c ∧ c ≤ 140737488351232 ∧ Bls w B m a.2.2.2.1 ∧ (B = none → m = 0 ∧ d = 0) ∧ m ≤ d ∧ d ≤ 9223372036854775807 ∧ -9223372036854775808 ≤ a.2.1 ∧ a.2.1 ≤ 9223372036854775807
theorem bls_shp {w : World} {A : Option Addr} {n c : Nat} {ks : List Bool} (h : (Shp.slice Shp.bool 1).R w [.slice A n c] ks) : Bls w A n ks ∧ n ≤ c ∧ (A = none → n = 0 ∧ c = 0) ∧ c ≤ 140737488351232 := by
  obtain ⟨A', c', e, h1, h2, h3, h4, h5⟩ := h
  simp only [List.cons.injEq, Value.slice.injEq, and_true] at e
  obtain ⟨rfl, rfl, rfl⟩ := e
  refine ⟨⟨by simp, fun j u hu => ?_⟩, h1, fun h => ⟨by have := h4 h; omega, h4 h⟩, by omega⟩
  have hj : j < ks.length := by have := (List.getElem?_eq_some_iff.1 hu).1; simpa using this
  obtain ⟨b, o, vs, rfl, hl, hc, hr⟩ := h5 j hj
  have hr : vs = [.bool ks[j]] := hr
  subst hr
  simp only [List.getElem?_map, List.getElem?_eq_getElem hj, Option.map_some, Option.some.injEq] at hu
  refine ⟨b, o, rfl, ?_⟩
  have := hc 0 _ rfl
  simp only [Shp.bool, Nat.mul_one, Nat.add_zero] at this
  rw [← hu]
  exact this
theorem act_is {w : World} {cs : List Value} {a : ActV} (h : actShp.R w cs a) : ActIs w cs a := by
  obtain ⟨c1, r1, rfl, hl1, h1, c2, r2, rfl, hl2, ⟨h2, h3, h4⟩, c3, r3, rfl, hl3, h5, c4, r4, rfl, hl4, h6, h7⟩ := h
  have h1 : c1 = [.int .u8 (a.1.toNat : Int)] := h1
  have h7 : r4 = [] := h7
  subst h1 h2 h7
  have h5' := h5
  have h6' := h6
  obtain ⟨A, c, rfl, _⟩ := h5'
  obtain ⟨B, d, rfl, _⟩ := h6'
  obtain ⟨p1, p2, p3, p4⟩ := bs_shp h5
  obtain ⟨q1, q2, q3, q4⟩ := bls_shp h6
  exact ⟨A, _, c, B, _, d, rfl, p1, p3, p2, p4, q1, q3, q2, by omega, h3, h4⟩
theorem act_arr {w : World} {cs : Array Value} {a : ActV} (h : actShp.R w cs.toList a) :
    ∃ A n c B m d, cs = #[.int .u8 (a.1.toNat : Int), .int .i64 a.2.1, .slice A n c, .slice B m d] ∧ Bs w A n a.2.2.1 ∧ (A = none → n = 0 ∧ c = 0) ∧ n ≤ c ∧ c ≤ 140737488351232 ∧ Bls w B m a.2.2.2.1 ∧ (B = none → m = 0 ∧ d = 0) ∧ m ≤ d ∧ d ≤ 9223372036854775807 ∧ -9223372036854775808 ≤ a.2.1 ∧ a.2.1 ≤ 9223372036854775807 := by
  obtain ⟨A, n, c, B, m, d, hcs, r⟩ := act_is h
  exact ⟨A, n, c, B, m, d, Array.toList_inj.1 (by rw [hcs]), r⟩
theorem acts_at {w : World} {A : Option Addr} {n c : Nat} {l : List ActV} (h : (Shp.slice actShp 64).R w [.slice A n c] l) {k : Nat} (hk : k < n) :
    ∃ b o, A = some ⟨b, o, none⟩ ∧ ∃ hx : k < l.length, ∃ vs, (∀ j u, vs[j]? = some u → w.cell? ⟨b, o + k * 4 + j, none⟩ = some u) ∧ ActIs w vs l[k] := by
  obtain ⟨A', c', e, h1, h2, h3, h4, h5⟩ := h
  simp only [List.cons.injEq, Value.slice.injEq, and_true] at e
  obtain ⟨rfl, rfl, rfl⟩ := e
  obtain ⟨b, o, vs, rfl, hl, hc, hr⟩ := h5 k hk
  exact ⟨b, o, rfl, hk, vs, hc, act_is hr⟩

theorem acts_len {w : World} {A : Option Addr} {n c : Nat} {l : List ActV} (h : (Shp.slice actShp 64).R w [.slice A n c] l) : n ≤ 9223372036854775807 := by
  obtain ⟨A', c', e, h1, h2, _⟩ := h
  simp only [List.cons.injEq, Value.slice.injEq, and_true] at e
  obtain ⟨rfl, rfl, rfl⟩ := e
  omega
/-- Call k of a script, as it lies in a later world. -/
theorem acts_later {W w : World} {S : Option Addr} {n c : Nat} {l : List ActV} (h : (Shp.slice actShp 64).R W [.slice S n c] l) (hb : Below W.heap.size W w) {k : Nat} (hk : k < n) :
    ∃ b o, S = some ⟨b, o, none⟩ ∧ ∃ (kd : Nat) (i : Int) (A B : Option Addr) (n1 c1 m1 d1 : Nat) (xs : List UInt8) (ks : List Bool), kd < 256 ∧ (-9223372036854775808 ≤ i ∧ i ≤ 9223372036854775807) ∧
      w.cell? ⟨b, o + k * 4, none⟩ = some (.int .u8 (kd : Int)) ∧ w.cell? ⟨b, o + k * 4 + 1, none⟩ = some (.int .i64 i) ∧ w.cell? ⟨b, o + k * 4 + 2, none⟩ = some (.slice A n1 c1) ∧ w.cell? ⟨b, o + k * 4 + 3, none⟩ = some (.slice B m1 d1) ∧
      Bs w A n1 xs ∧ (A = none → n1 = 0 ∧ c1 = 0) ∧ n1 ≤ c1 ∧ Bls w B m1 ks ∧ m1 ≤ 9223372036854775807 ∧ (∀ a, A = some a → 0 < n1 → a.block < W.heap.size) ∧ (∀ a, B = some a → 0 < m1 → a.block < W.heap.size) ∧
      ∃ hx : k < l.length, kd = l[k].1.toNat ∧ i = l[k].2.1 ∧ xs = l[k].2.2.1 ∧ ks = l[k].2.2.2.1 := by
  obtain ⟨b, o, rfl, hx, vs, hc, A, n1, c1, B, m1, d1, rfl, h1, h2, h3, h4, h5, h6, h7, h8, h9, h10⟩ := acts_at h hk
  have hc' : ∀ (j : Nat) u, ([Value.int .u8 (l[k].1.toNat : Int), .int .i64 l[k].2.1, .slice A n1 c1, .slice B m1 d1] : List Value)[j]? = some u → w.cell? ⟨b, o + k * 4 + j, none⟩ = some u := fun j u hu => (hb.cell (cell_lt (hc j u hu))).trans (hc j u hu)
  exact ⟨b, o, rfl, _, _, A, B, n1, c1, m1, d1, _, _, l[k].1.toNat_lt, ⟨h9, h10⟩, hc' 0 _ rfl, hc' 1 _ rfl, hc' 2 _ rfl, hc' 3 _ rfl, h1.below hb, h2, h3, Rd.below h5 hb, by omega, rd_block h1, rd_block h5, hx, rfl, rfl, rfl, rfl⟩

theorem ops_act : Opens Try.prog 36 actShp :=
  opens_struct Try.underlying36 (by kernel_rfl) (opensF_cons (opens_u8 Try.underlying5 (by kernel_rfl)) rfl (opensF_cons (opens_int _ _ Try.underlying3 (by kernel_rfl) wf_i64) rfl
    (opensF_cons (opens_slice 1 Try.underlying34 (by kernel_rfl) (by kernel_rfl) (by decide) (opens_u8 Try.underlying5 (by kernel_rfl))) rfl (opensF_cons (opens_slice 1 Try.underlying28 (by kernel_rfl) (by kernel_rfl) (by decide) (opens_bool Try.underlying4 (by kernel_rfl))) rfl (opensF_nil _)))))
theorem ops_acts : Opens Try.prog 22 (Shp.slice actShp 64) := opens_slice 64 Try.underlying22 (by kernel_rfl) (by kernel_rfl) (by decide) ops_act
theorem ops_bools : Opens Try.prog 28 (Shp.slice Shp.bool 1) := opens_slice 1 Try.underlying28 (by kernel_rfl) (by kernel_rfl) (by decide) (opens_bool Try.underlying4 (by kernel_rfl))
end Go.Proofs.Ytbppkdfmiegipaa
