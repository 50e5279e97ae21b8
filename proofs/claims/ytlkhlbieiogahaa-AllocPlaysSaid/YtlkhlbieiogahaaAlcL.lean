/- What the statements of layer 5 share: alive; scripts of calls. -/
import Derived.Test.YtlkhlbieiogahaaAlcC
import Derived.Test.YtlkhlbieiogahaaShp
namespace Go.Proofs.Ytlkhlbieiogahaa
open Go.ChangeShapes Go.WideShapes Go.ChangeAt Go.RowKit Go.Maps

def al0 : Nat → Int := fun _ => 0
def al1 : Nat → Int := (takeR 4 al0 2).2.2
def al2 : Nat → Int := (takeR 4 al1 2).2.2
def al3 : Nat → Int := (dropR 4 al2 0 1).2.2
def al4 : Nat → Int := settleC 4 al3
theorem alw1 : (takeR 4 al0 2).1 = 0 ∧ (takeR 4 al0 2).2.1 = 0 ∧ (takeR 4 al0 2).2.2 = al1 := ⟨by decide +kernel, by decide +kernel, rfl⟩
theorem alw2 : (takeR 4 al1 2).1 = 2 ∧ (takeR 4 al1 2).2.1 = 0 ∧ (takeR 4 al1 2).2.2 = al2 := ⟨by decide +kernel, by decide +kernel, rfl⟩
theorem hit2 : hit al2 1 4 = none := by decide +kernel
theorem hit3 : hit al3 1 4 = none := by decide +kernel
theorem take_full {N : Nat} {c : Nat → Int} (h : hit c 1 N = none) : takeR N c 1 = (0, 7, c) := by
  unfold takeR
  rw [if_neg (by decide), show (1 : Int).toNat = 1 from rfl, h]
theorem alw3 : takeR 4 al2 1 = (0, 7, al2) := take_full hit2
theorem alw4 : (dropR 4 al2 0 1).1 = 1 ∧ (dropR 4 al2 0 1).2.1 = 0 ∧ (dropR 4 al2 0 1).2.2 = al3 := ⟨by decide +kernel, by decide +kernel, rfl⟩
theorem alw5 : takeR 4 al3 1 = (0, 7, al3) := take_full hit3
theorem alw6 : waitR 4 al3 = 1 := by decide +kernel
theorem alw7 : (takeR 4 al4 1).1 = 0 ∧ (takeR 4 al4 1).2.1 = 0 := ⟨by decide +kernel, by decide +kernel⟩

set_option maxRecDepth 100000 in
set_option maxHeartbeats 1000000 in
theorem alive_ (w : World) : Calls Try.prog 11 #[] w fun e w' => e = .returned (.bool true) ∧ Below w.heap.size w w' := by
  have b1 : -9223372036854775808 ≤ (1 : Int) ∧ (1 : Int) ≤ 9223372036854775807 := by omega
  have b2 : -9223372036854775808 ≤ (2 : Int) ∧ (2 : Int) ≤ 9223372036854775807 := by omega
  have b0 : -9223372036854775808 ≤ (0 : Int) ∧ (0 : Int) ≤ 9223372036854775807 := by omega
  go_enter Try.func11, Try.ntmps11
  go_wp2_with fail
  refine (new_ 4 w (by decide) (by decide)).mono ?_
  rintro e w1 ⟨g, rfl, hg, h1, hB1⟩
  change Al w1 g 4 al0 at h1
  have hl1 := h1.lt
  go_wp2_with fail
  refine (take_ g 4 al0 w1 2 h1 b2).mono ?_
  rw [alw1.1, alw1.2.1, alw1.2.2]
  rintro e w2 ⟨rfl, h2, ht2⟩
  have hB2 : Below w.heap.size w w2 := hB1.trans (ht2.below (by omega) hB1.size)
  clear hB1 ht2 h1
  go_wp2_with fail
  refine (take_ g 4 al1 w2 2 h2 b2).mono ?_
  rw [alw2.1, alw2.2.1, alw2.2.2]
  rintro e w3 ⟨rfl, h3, ht3⟩
  have hB3 : Below w.heap.size w w3 := hB2.trans (ht3.below (by omega) hB2.size)
  clear hB2 ht3 h2
  go_wp2_with fail
  refine (take_ g 4 al2 w3 1 h3 b1).mono ?_
  rw [alw3]
  rintro e w4 ⟨rfl, h4, ht4⟩
  have hB4 : Below w.heap.size w w4 := hB3.trans (ht4.below (by omega) hB3.size)
  clear hB3 ht4 h3
  go_wp2_with fail
  refine (drop_ g 4 al2 w4 0 1 h4 b0 b1).mono ?_
  rw [alw4.1, alw4.2.1, alw4.2.2]
  rintro e w5 ⟨rfl, h5, ht5⟩
  have hB5 : Below w.heap.size w w5 := hB4.trans (ht5.below (by omega) hB4.size)
  clear hB4 ht5 h4
  go_wp2_with fail
  refine (take_ g 4 al3 w5 1 h5 b1).mono ?_
  rw [alw5]
  rintro e w6 ⟨rfl, h6, ht6⟩
  have hB6 : Below w.heap.size w w6 := hB5.trans (ht6.below (by omega) hB5.size)
  clear hB5 ht6 h5
  go_wp2_with fail
  refine (settle_ g 4 al3 w6 h6).mono ?_
  rw [alw6]
  rintro e w7 ⟨rfl, h7, ht7⟩
  change Al w7 g 4 al4 at h7
  have hB7 : Below w.heap.size w w7 := hB6.trans (ht7.below (by omega) hB6.size)
  clear hB6 ht7 h6
  go_wp2_with fail
  refine (take_ g 4 al4 w7 1 h7 b1).mono ?_
  rw [alw7.1, alw7.2]
  rintro e w8 ⟨rfl, h8, ht8⟩
  have hB8 : Below w.heap.size w w8 := hB7.trans (ht8.below (by omega) hB7.size)
  clear hB7 ht8 h7 h8
  go_wp2
  go_ret
  exact ⟨rfl, hB8⟩

theorem own_ : ownKnob Try.prog.godebug = none := by kernel_rfl
theorem laidOut_ : laidOutB Try.prog = true := by kernel_rfl

/-! ### scripts -/
abbrev ActV : Type := UInt8 × Int × Int × Unit
def actShp : Shp ActV := Shp.agg (Shp.pair Shp.u8 (Shp.pair (Shp.int .i64 (-9223372036854775808) 9223372036854775807) (Shp.pair (Shp.int .i64 (-9223372036854775808) 9223372036854775807) Shp.unit)))
theorem act_is {w : World} {cs : List Value} {a : ActV} (h : actShp.R w cs a) : cs = [.int .u8 (a.1.toNat : Int), .int .i64 a.2.1, .int .i64 a.2.2.1] ∧ (-9223372036854775808 ≤ a.2.1 ∧ a.2.1 ≤ 9223372036854775807) ∧ (-9223372036854775808 ≤ a.2.2.1 ∧ a.2.2.1 ≤ 9223372036854775807) := by
  obtain ⟨c1, r1, rfl, hl1, h1, c2, r2, rfl, hl2, ⟨h2, h3, h4⟩, c3, r3, rfl, hl3, ⟨h5, h6, h7⟩, h8⟩ := h
  have h1 : c1 = [.int .u8 (a.1.toNat : Int)] := h1
  have h8 : r3 = [] := h8
  subst h1 h2 h5 h8
  exact ⟨rfl, ⟨h3, h4⟩, ⟨h6, h7⟩⟩
theorem act_arr {w : World} {cs : Array Value} {a : ActV} (h : actShp.R w cs.toList a) : cs = #[.int .u8 (a.1.toNat : Int), .int .i64 a.2.1, .int .i64 a.2.2.1] ∧ (-9223372036854775808 ≤ a.2.1 ∧ a.2.1 ≤ 9223372036854775807) ∧ (-9223372036854775808 ≤ a.2.2.1 ∧ a.2.2.1 ≤ 9223372036854775807) := by
  obtain ⟨hcs, r⟩ := act_is h
  exact ⟨Array.toList_inj.1 (by rw [hcs]), r⟩
theorem acts_len {w : World} {A : Option Addr} {n c : Nat} {l : List ActV} (h : (Shp.slice actShp 24).R w [.slice A n c] l) : n ≤ 9223372036854775807 := by
  obtain ⟨A', c', e, h1, h2, _⟩ := h
  simp only [List.cons.injEq, Value.slice.injEq, and_true] at e
  obtain ⟨rfl, rfl, rfl⟩ := e
  omega
/-- Call k of a script, as it lies in a later world. -/
theorem acts_later {W w : World} {S : Option Addr} {n c : Nat} {l : List ActV} (h : (Shp.slice actShp 24).R W [.slice S n c] l) (hb : Below W.heap.size W w) {k : Nat} (hk : k < n) :
    ∃ b o, S = some ⟨b, o, none⟩ ∧ ∃ (kd : Nat) (f m : Int), kd < 256 ∧ (-9223372036854775808 ≤ f ∧ f ≤ 9223372036854775807) ∧ (-9223372036854775808 ≤ m ∧ m ≤ 9223372036854775807) ∧
      w.cell? ⟨b, o + k * 3, none⟩ = some (.int .u8 (kd : Int)) ∧ w.cell? ⟨b, o + k * 3 + 1, none⟩ = some (.int .i64 f) ∧ w.cell? ⟨b, o + k * 3 + 2, none⟩ = some (.int .i64 m) := by
  obtain ⟨A', c', e, h1, h2, h3, h4, h5⟩ := h
  simp only [List.cons.injEq, Value.slice.injEq, and_true] at e
  obtain ⟨rfl, rfl, rfl⟩ := e
  obtain ⟨b, o, vs, rfl, hl, hc, hr⟩ := h5 k hk
  obtain ⟨rfl, q1, q2⟩ := act_is hr
  have hc' : ∀ (j : Nat) u, ([Value.int .u8 (l[k].1.toNat : Int), .int .i64 l[k].2.1, .int .i64 l[k].2.2.1] : List Value)[j]? = some u → w.cell? ⟨b, o + k * 3 + j, none⟩ = some u := fun j u hu => (hb.cell (cell_lt (hc j u hu))).trans (hc j u hu)
  exact ⟨b, o, rfl, _, _, _, l[k].1.toNat_lt, q1, q2, hc' 0 _ rfl, hc' 1 _ rfl, hc' 2 _ rfl⟩
theorem mod4 {kd r : Nat} (h : kd % 4 = r) (j : Int) : ((kd : Int) % 4 == j) = decide (j = (r : Int)) := by
  by_cases e : j = (r : Int)
  · subst e; simp; omega
  · rw [decide_eq_false e, beq_eq_false_iff_ne]; omega

theorem ops_act : Opens Try.prog 35 actShp :=
  opens_struct Try.underlying35 (by kernel_rfl) (opensF_cons (opens_u8 Try.underlying5 (by kernel_rfl)) rfl (opensF_cons (opens_int _ _ Try.underlying3 (by kernel_rfl) wf_i64) rfl (opensF_cons (opens_int _ _ Try.underlying3 (by kernel_rfl) wf_i64) rfl (opensF_nil _))))
theorem ops_acts : Opens Try.prog 22 (Shp.slice actShp 24) := opens_slice 24 Try.underlying22 (by kernel_rfl) (by kernel_rfl) (by decide) ops_act
end Go.Proofs.Ytlkhlbieiogahaa
