/- Walks of package pack's Writer: add, Put, Part, Bytes; each said of bytes. -/
import Derived.Test.YtallbhdfbkkjkaaPackWa
import Derived.Laws.CopyOwn
import Derived.Deep.OwnRows
set_option linter.all false
namespace Go.Proofs.Ytallbhdfbkkjkaa
open Go.RowKit

/-- The pieces behind a pointer, the newest first. -/
def Chain (w : World) (base : Nat) : Value → List (List UInt8) → Prop
  | v, [] => v = .pointer none
  | v, p :: ps => ∃ g prev A n c, v = .pointer (some ⟨g, 0, none⟩) ∧ base ≤ g ∧ Blk w g 105 #[prev, .slice A n c] ∧ w.ownsRow base 5 1 (.slice A n c) n (bvs p) ∧ 0 < n ∧ Chain w base prev ps
def chainBytes : List (List UInt8) → List UInt8
  | [] => []
  | p :: ps => chainBytes ps ++ p
/-- What is as it was from base on keeps the pieces. -/
theorem Chain.keep {w w' : World} {base : Nat} (hk : ∀ g, base ≤ g → g < w.heap.size → w'.heap[g]? = w.heap[g]?) : ∀ {ps : List (List UInt8)} {v : Value}, Chain w base v ps → Chain w' base v ps
  | [], _, h => h
  | _ :: _, _, ⟨g, prev, A, n, c, e, hg, hb, ho, hn, hc⟩ => ⟨g, prev, A, n, c, e, hg, (hk g hg hb.lt).trans hb, by
      refine ⟨ho.1, ?_⟩
      rcases ho.2 with h2 | ⟨g', cap, cur, hv, hg', hh, r⟩
      · exact Or.inl h2
      · exact Or.inr ⟨g', cap, cur, hv, hg', (hk g' hg' (Array.getElem?_eq_some_iff.1 hh).1).trans hh, r⟩, hn, Chain.keep hk hc⟩
theorem Chain.ptr {w : World} {base : Nat} {v : Value} {ps : List (List UInt8)} (h : Chain w base v ps) : ∃ a, v = .pointer a := by
  cases ps with
  | nil => exact ⟨_, h⟩
  | cons p ps => obtain ⟨g, prev, A, n, c, e, _⟩ := h; exact ⟨_, e⟩
/-- A Writer at block bw that has put xs; its pieces lie from block B on. -/
def Wr3 (w : World) (bw B : Nat) (xs : List UInt8) : Prop :=
  ∃ last ps, Blk w bw 70 #[last, .int .i64 (xs.length : Int)] ∧ Chain w B last ps ∧ xs = chainBytes ps
theorem Wr3.keep {w w' : World} {bw B : Nat} {xs : List UInt8} (h : Wr3 w bw B xs) (hb : w'.heap[bw]? = w.heap[bw]?) (hk : ∀ g, B ≤ g → g < w.heap.size → w'.heap[g]? = w.heap[g]?) : Wr3 w' bw B xs := by
  obtain ⟨last, ps, hb', hc, hx⟩ := h
  exact ⟨last, ps, hb.trans hb', hc.keep hk, hx⟩
theorem Wr3.below {w w' : World} {bw B : Nat} {xs : List UInt8} (h : Wr3 w bw B xs) (hb : Below w.heap.size w w') : Wr3 w' bw B xs := h.keep (hb.block _ (by obtain ⟨_, _, hb, _⟩ := h; exact hb.lt)) fun g _ hlt => hb.block g hlt
theorem Wr3.lt {w : World} {bw B : Nat} {xs : List UInt8} (h : Wr3 w bw B xs) : bw < w.heap.size := by obtain ⟨_, _, hb, _⟩ := h; exact hb.lt
/-- Another row is written, which is not the Writer's. -/
theorem Wr3.grown {w w' : World} {bw B : Nat} {xs : List UInt8} {row : Option Nat} (h : Wr3 w bw B xs) (hg : w.grownBy w' row) (hr : ∀ k, row = some k → k ≠ bw ∧ k < B) : Wr3 w' bw B xs :=
  h.keep (hg.block _ h.lt (fun e => (hr bw e.symm).1 rfl)) fun g hB hlt => hg.block g hlt (fun e => by have := (hr g e.symm).2; omega)
/-- A Writer that has put nothing has pieces nowhere. -/
theorem Wr3.base {w : World} {bw B : Nat} (h : Wr3 w bw B []) (B' : Nat) : Wr3 w bw B' [] := by
  obtain ⟨last, ps, hb, hc, hx⟩ := h
  cases ps with
  | nil => exact ⟨last, [], hb, hc, hx⟩
  | cons p ps =>
    obtain ⟨g, prev, A, n, c, _, _, _, ho, hn, _⟩ := hc
    have h1 := (bs_own ho).len
    have h2 := congrArg List.length hx
    rw [chainBytes, List.length_append] at h2
    simp at h2
    omega
/-- A Writer at block bw that has put xs. -/
def Wr (w : World) (bw : Nat) (xs : List UInt8) : Prop := Wr3 w bw (bw + 1) xs
theorem Wr.keep {w w' : World} {bw : Nat} {xs : List UInt8} (h : Wr w bw xs) (hk : ∀ g, bw ≤ g → g < w.heap.size → w'.heap[g]? = w.heap[g]?) : Wr w' bw xs :=
  Wr3.keep h (hk _ (Nat.le_refl _) (Wr3.lt h)) fun g hg hlt => hk g (by omega) hlt
theorem Wr.below {w w' : World} {bw : Nat} {xs : List UInt8} (h : Wr w bw xs) (hb : Below w.heap.size w w') : Wr w' bw xs := Wr3.below h hb
theorem Wr.lt {w : World} {bw : Nat} {xs : List UInt8} (h : Wr w bw xs) : bw < w.heap.size := Wr3.lt h
/-- A new Writer has put nothing. -/
theorem Wr.new (w : World) {g : Nat} (hg : g = w.heap.size) : Wr (w.alloc (.cells #[.pointer none, .int .i64 0] 70)) g [] :=
  ⟨_, [], Blk.new w _ _ hg, rfl, rfl⟩

set_option maxRecDepth 100000 in
set_option maxHeartbeats 400000 in
theorem add_ (bw B : Nat) (xs ys : List UInt8) (v : Value) (w : World) (hw : Wr3 w bw B xs) (hbB : bw < B) (hB : B ≤ w.heap.size) (hown : w.ownsRow B 5 1 v ys.length (bvs ys)) (hn : xs.length + ys.length ≤ 140737488355328) :
    Calls Try.prog 53 #[.pointer (some ⟨bw, 0, none⟩), v] w fun e w' => e = .returned (.tuple #[]) ∧ Wr3 w' bw B (xs ++ ys) ∧ w.grownBy w' (some bw) := by
  obtain ⟨last, ps, hb, hc, hx⟩ := hw
  obtain ⟨A, c, rfl, hnc, hm, hA⟩ := own_form hown
  obtain ⟨la, rfl⟩ := hc.ptr
  have hlt := hb.lt
  have c0 := hb.cell (j := 0) rfl
  have c1 := hb.cell (j := 1) rfl
  have f0 := hb.free 0
  have f1 := hb.free 1
  have Hx := Lib.hid hx
  have h0 : 0 ≤ (xs.length : Int) := by omega
  clear hx
  by_cases hy : ys = []
  · subst hy
    go_enter Try.func53, Try.ntmps53
    go_wp2
    refine bodyPost_ret (results_none rfl _ _ _) rfl ?_
    exact ⟨rfl, ⟨.pointer la, ps, by simpa using hb, hc, by simpa using Hx.out⟩, World.grownBy.refl _ _⟩
  · have hpos : 0 < ys.length := List.length_pos_iff.2 hy
    have hne : (ys.length == 0) = false := by simpa using hy
    go_enter Try.func53, Try.ntmps53
    go_wp2
    go_end0
    have g1 := ((grown_setCell w ⟨bw, 0, none⟩ (.pointer (some ⟨w.heap.size, 0, none⟩))).trans (grown_setCell _ ⟨bw, 1, none⟩ (.int .i64 ((xs.length : Int) + ys.length)))).trans (World.grownBy_alloc _ (.cells #[.pointer la, .slice A ys.length c] 105) (some bw))
    refine ⟨rfl, ⟨_, ys :: ps, ?_, ⟨w.heap.size, .pointer la, A, ys.length, c, rfl, hB, Blk.new _ _ _ (by simp), hown.kept g1 (.inr fun e => ?_), hpos, hc.keep fun g hg hlt => ?_⟩, by rw [chainBytes, ← Hx.out]⟩, g1⟩
    · have h2 := ((hb.setCell 0 (.pointer (some ⟨w.heap.size, 0, none⟩))).setCell 1 (.int .i64 ((xs.length : Int) + ys.length))).alloc (.cells #[.pointer la, .slice A ys.length c] 105)
      simpa using h2
    · have h3 := (hown.lt _ e).1; simp only at h3; omega
    · exact g1.block g hlt (by intro e; injection e with e; simp only at e; omega)

set_option maxRecDepth 100000 in
set_option maxHeartbeats 1000000 in
theorem put3_ (bw B : Nat) (xs : List UInt8) (A : Option Addr) (n c : Nat) (l : List Nat) (w : World) (hw : Wr3 w bw B xs) (hbB : bw < B) (hB : B ≤ w.heap.size) (hl : Ns w A n l) (hnc : n ≤ c) (hc : c ≤ 9223372036854775807) (hn : xs.length + 8 * n ≤ 140737488355328) :
    Calls Try.prog 28 #[.pointer (some ⟨bw, 0, none⟩), .slice A n c] w fun e w' => e = .returned (.tuple #[]) ∧ Wr3 w' bw B (xs ++ numsBytes l) ∧ w.grownBy w' (some bw) := by
  obtain ⟨i0, hi0, hz0, hz1, hz2⟩ := info_parts info_u8
  have Hz := Lib.hid hz2
  have Hlen := Lib.hid hl.len
  have hlt0 := hw.lt
  clear hz2
  go_enter Try.func28, Try.ntmps28
  go_wp2_with (first
    | (refine wpList_make_own _ rfl _ _ 22 rfl w.heap.size 5 i0 _ 1 Try.underlying22 hi0 hz0 hz1 .i64 .i64 _ (8 * n) rfl rfl (by omega) (by rw [Hz.out]; omega) (by unfold maxLen; omega) (Nat.le_refl _) ?_
       intro w1 hown1 hg1
       have hb1 : Below w.heap.size w w1 := grown_none_below hg1))
  clear hg1
  go_loopw [4, 15] (fun u i wr => ∃ k : Nat, k ≤ n ∧ i = .int .i64 k ∧ wr.ownsRow w.heap.size 5 1 u (8 * k) (bvs (numsBytes (l.take k))) ∧ Below w.heap.size w wr) (fun _ i _ => n - (intOf i).toNat)
  case atStart => exact ⟨0, Nat.zero_le _, rfl, by simpa [numsBytes, bvs] using hown1, hb1⟩
  case round =>
    obtain ⟨k, hk, rfl, hok, hbk⟩ := hrel
    clear hown1 hb1
    by_cases hlt : k < n
    · obtain ⟨b, o, rfl, hkl, hcell0, hz⟩ := hl.at_ hlt
      have hcell : wr.cell? ⟨b, o + k, none⟩ = _ := (hbk.cell (cell_lt hcell0)).trans hcell0
      have H1 := Lib.hid (numsBytes_snoc (l.take k) l[k])
      have H5 := Lib.hid (List.take_succ_eq_append_getElem hkl)
      clear hl hw
      go_wp2_with (refine (number_ w.heap.size _ (8 * k) (numsBytes (l.take k)) l[k] hz _ hok (by omega) hbk.size).mono ?_; rintro e w2 ⟨v2, rfl, hown2, haf2⟩)
      have hb2 : Below w.heap.size w w2 := hbk.trans (haf2.below hbk.size fun j hj => (hok.lt j hj).1)
      rw [← H1.out, ← H5.out] at hown2
      go_roundw
      case rel => exact ⟨k + 1, by omega, by go_num, hown2, hb2⟩
      case measure => simp [intOf]; omega
    · have hkn : k = n := by omega
      subst hkn
      have hlen : (numsBytes l).length = 8 * k := by rw [numsBytes_length, ← Hlen.out]
      rw [List.take_of_length_le (by rw [← Hlen.out]; omega), ← hlen] at hok
      have hwr := hw.below hbk
      have Hl := Lib.hid hlen
      clear hlen hl hw
      go_wp2_with (refine (add_ bw B xs (numsBytes l) _ _ hwr hbB (Nat.le_trans hB hbk.size) (hok.mono hB) (by rw [Hl.out]; omega)).mono ?_; rintro e w2 ⟨rfl, hw2, hg2⟩)
      go_end0
      exact ⟨rfl, hw2, grown_step (below_grown hbk (some bw)) hg2 (fun j e => .inr e)⟩

set_option maxRecDepth 100000 in
set_option maxHeartbeats 1000000 in
theorem part3_ (bw B : Nat) (xs : List UInt8) (A : Option Addr) (n c : Nat) (l : List (List UInt8)) (w : World) (hw : Wr3 w bw B xs) (hbB : bw < B) (hB : B ≤ w.heap.size) (hl : Bss w A n l) (hnc : n ≤ c) (hc : c ≤ 9223372036854775807) (hn : xs.length + (partsBytes l).length ≤ 140737488355328) :
    Calls Try.prog 29 #[.pointer (some ⟨bw, 0, none⟩), .slice A n c] w fun e w' => e = .returned (.tuple #[]) ∧ Wr3 w' bw B (xs ++ partsBytes l) ∧ w.grownBy w' (some bw) := by
  obtain ⟨i0, hi0, hz0, hz1, hz2⟩ := info_parts info_u8
  have Hz := Lib.hid hz2
  have Hlen := Lib.hid hl.1
  have hlt0 := hw.lt
  clear hz2
  go_enter Try.func29, Try.ntmps29
  go_wp2
  go_loopw [4, 11] (fun u i wr => ∃ k : Nat, k ≤ n ∧ i = .int .i64 k ∧ wr.ownsRow w.heap.size 5 1 u (partsBytes (l.take k)).length (bvs (partsBytes (l.take k))) ∧ Below w.heap.size w wr) (fun _ i _ => n - (intOf i).toNat)
  case atStart => exact ⟨0, Nat.zero_le _, rfl, by simpa [partsBytes, bvs] using own_nil w w.heap.size 5 1, Below.refl _ _⟩
  case round =>
    obtain ⟨k, hk, rfl, hok, hbk⟩ := hrel
    by_cases hlt : k < n
    · have hkl : k < l.length := by rw [← Hlen.out]; exact hlt
      obtain ⟨b, o, Ap, np, cp, rfl, hcell0, hp1, hp2, hp3⟩ := hl.2 k hkl
      have hcell : wr.cell? ⟨b, o + k, none⟩ = _ := (hbk.cell (cell_lt hcell0)).trans hcell0
      have H5 := Lib.hid (List.take_succ_eq_append_getElem hkl)
      have H6 := Lib.hid (partsBytes_snoc (l.take k) l[k])
      have Hnp := Lib.hid hp3.len
      have hbd : (partsBytes (l.take k)).length + (8 + np) ≤ 140737488355328 := by
        have h1 := partsBytes_take_length l (k + 1)
        rw [H5.out, H6.out, List.length_append, partBytes_length] at h1
        have h3 := Hnp.out
        omega
      have H7 := Lib.hid (show bvs (partsBytes (l.take k) ++ numBytes np) ++ bvs l[k] = bvs (partsBytes (l.take (k + 1))) by
        rw [H5.out, H6.out, partBytes, ← Hnp.out, ← bvs_append, List.append_assoc])
      have H8 := Lib.hid (show (partsBytes (l.take k)).length + 8 + np = (partsBytes (l.take (k + 1))).length by
        rw [H5.out, H6.out, List.length_append, partBytes_length, ← Hnp.out]; omega)
      have hp := hp3.below hbk
      clear hl hw
      generalize (partsBytes (l.take k)).length = q at *
      go_wp2_with (first
        | (refine (number_ w.heap.size _ q (partsBytes (l.take k)) np (by omega) _ hok (by omega) hbk.size).mono ?_
           rintro e w2 ⟨v2, rfl, hown2, haf2⟩
           have hb2 : Below w.heap.size w w2 := hbk.trans (haf2.below hbk.size fun j hj => (hok.lt j hj).1)
           have hp' := hp3.below hb2)
        | (at_builtin
           refine wpList_app _ rfl (.tmp 20) (.tmp 21) _ rfl w.heap.size 5 i0 (.int .u8 0) 1 1 Try.underlying22 hi0 hz0 hz1 Hz.out rfl Nat.one_pos v2 (q + 8) _ rfl hown2 Ap np cp _ rfl hp'.zero hp' (bvs_one _) (by unfold maxLen; omega) (by omega) hb2.size ?_
           intro v3 w3 hown3 hg3 hat3
           have hb3 : Below w.heap.size w w3 := hb2.grown hg3 hb2.size fun j hj => (hown2.lt j hj).1
           rw [H7.out, H8.out] at hown3))
      go_roundw
      case rel => exact ⟨k + 1, by omega, by go_num, hown3, hb3⟩
      case measure => simp [intOf]; omega
    · have hkn : k = n := by omega
      subst hkn
      rw [List.take_of_length_le (by rw [← Hlen.out]; omega)] at hok
      have hwr := hw.below hbk
      clear hl hw
      go_wp2_with (refine (add_ bw B xs (partsBytes l) _ _ hwr hbB (Nat.le_trans hB hbk.size) (hok.mono hB) hn).mono ?_; rintro e w2 ⟨rfl, hw2, hg2⟩)
      go_end0
      exact ⟨rfl, hw2, grown_step (below_grown hbk (some bw)) hg2 (fun j e => .inr e)⟩

theorem put_ (bw : Nat) (xs : List UInt8) (A : Option Addr) (n c : Nat) (l : List Nat) (w : World) (hw : Wr w bw xs) (hl : Ns w A n l) (hnc : n ≤ c) (hc : c ≤ 9223372036854775807) (hn : xs.length + 8 * n ≤ 140737488355328) :
    Calls Try.prog 28 #[.pointer (some ⟨bw, 0, none⟩), .slice A n c] w fun e w' => e = .returned (.tuple #[]) ∧ Wr w' bw (xs ++ numsBytes l) ∧ w.grownBy w' (some bw) :=
  put3_ bw (bw + 1) xs A n c l w hw (Nat.lt_succ_self _) hw.lt hl hnc hc hn
theorem part_ (bw : Nat) (xs : List UInt8) (A : Option Addr) (n c : Nat) (l : List (List UInt8)) (w : World) (hw : Wr w bw xs) (hl : Bss w A n l) (hnc : n ≤ c) (hc : c ≤ 9223372036854775807) (hn : xs.length + (partsBytes l).length ≤ 140737488355328) :
    Calls Try.prog 29 #[.pointer (some ⟨bw, 0, none⟩), .slice A n c] w fun e w' => e = .returned (.tuple #[]) ∧ Wr w' bw (xs ++ partsBytes l) ∧ w.grownBy w' (some bw) :=
  part3_ bw (bw + 1) xs A n c l w hw (Nat.lt_succ_self _) hw.lt hl hnc hc hn

/-- On a nil Writer nothing is put. -/
theorem put_nil (A : Option Addr) (n c : Nat) (w : World) : Calls Try.prog 28 #[.pointer none, .slice A n c] w fun e w' => e = .returned (.tuple #[]) ∧ w = w' := by
  go_enter Try.func28, Try.ntmps28
  go_wp2
  refine bodyPost_ret (results_none rfl _ _ _) rfl ?_
  exact ⟨rfl, rfl⟩
theorem part_nil (A : Option Addr) (n c : Nat) (w : World) : Calls Try.prog 29 #[.pointer none, .slice A n c] w fun e w' => e = .returned (.tuple #[]) ∧ w = w' := by
  go_enter Try.func29, Try.ntmps29
  go_wp2
  refine bodyPost_ret (results_none rfl _ _ _) rfl ?_
  exact ⟨rfl, rfl⟩
theorem bytes_nil (w : World) : Calls Try.prog 31 #[.pointer none] w fun e w' => e = .returned (.slice none 0 0) ∧ w = w' := by
  go_enter Try.func31, Try.ntmps31
  go_wp2
  go_ret
  exact ⟨rfl, rfl⟩

theorem madeList (z : Value) (n : Nat) : (madeCells #[z] n).toList = List.replicate n z := by
  apply List.ext_getElem?
  intro j
  by_cases h : j < n
  · simp [madeCells, h, Nat.mod_one]
  · simp [madeCells, h]

set_option maxRecDepth 100000 in
set_option maxHeartbeats 1000000 in
theorem bytes3_ (bw B : Nat) (xs : List UInt8) (w : World) (hw : Wr3 w bw B xs) (hn : xs.length ≤ 140737488355328) :
    Calls Try.prog 31 #[.pointer (some ⟨bw, 0, none⟩)] w fun e w' => e = .returned (.slice (some ⟨w.heap.size, 0, none⟩) xs.length xs.length) ∧ Blk w' w.heap.size 5 (bvs xs).toArray ∧ Below w.heap.size w w' := by
  obtain ⟨last, ps, hb, hc, hx⟩ := hw
  obtain ⟨la, rfl⟩ := hc.ptr
  obtain ⟨i0, hi0, hz0, hz1, hz2⟩ := info_parts info_u8
  have Hz := Lib.hid hz2
  clear hz2
  have hlt := hb.lt
  have c0 := hb.cell (j := 0) rfl
  have c1 := hb.cell (j := 1) rfl
  have Hx := Lib.hid hx
  have h0 : 0 ≤ (xs.length : Int) := by omega
  clear hx
  generalize hsz : xs.length = sz at *
  have Hsz := Lib.hid hsz
  clear hsz
  go_enter Try.func31, Try.ntmps31
  go_wp2_with (refine wpList_make_row _ rfl _ _ 22 rfl 5 i0 (.int .u8 0) Try.underlying22 hi0 hz0 hz1 rfl .i64 .i64 sz rfl rfl (by rw [Hz.out]; omega) (by omega) ?_)
  go_loopw [4, 5] (fun q v wr => ∃ (qs : List (List UInt8)) (a : Option Addr) (done : List UInt8), v = .pointer a ∧ Chain w B v qs ∧ chainBytes qs ++ done = xs ∧ q = .int .i64 ((chainBytes qs).length : Int) ∧
      Blk wr w.heap.size 5 (List.replicate (chainBytes qs).length (Value.int .u8 0) ++ bvs done).toArray ∧ Below w.heap.size w wr) (fun q _ _ => (intOf q).toNat)
  case atStart =>
    refine ⟨ps, la, [], rfl, hc, by rw [List.append_nil]; exact Hx.out.symm, by rw [← Hsz.out, ← Hx.out], ?_, (Below.refl _ _).alloc (Nat.le_refl _) _⟩
    rw [← Hx.out, Hsz.out, ← madeList]
    simpa [bvs] using Blk.new w 5 (madeCells #[.int .u8 0] sz) rfl
  case round =>
    obtain ⟨qs, a, done, rfl, hcq, hxq, rfl, hblk, hbl⟩ := hrel
    clear hc
    cases qs with
    | nil =>
      obtain rfl : a = none := by injection hcq
      have Hd : done = xs := hxq
      subst Hd
      have hblk' : Blk wr w.heap.size 5 (bvs done).toArray := by simpa [chainBytes] using hblk
      clear hblk hxq
      go_wp2
      go_ret
      exact ⟨rfl, hblk', hbl⟩
    | cons p qs =>
      obtain ⟨g, prev, A, np, cp, e, hg, hbg, hop, hnp, hcr⟩ := hcq
      injection e with e
      subst e
      obtain ⟨pa, rfl⟩ := hcr.ptr
      have Hp := Lib.hid (bs_own hop).len
      have hlen : (chainBytes (p :: qs)).length = (chainBytes qs).length + np := by rw [chainBytes, List.length_append, ← Hp.out]
      have hgl := hbg.lt
      have d0 := (hbg.below hbl hgl).cell (j := 0) (u := .pointer pa) rfl
      have d1 := (hbg.below hbl hgl).cell (j := 1) (u := .slice A np cp) rfl
      have hd1 : w.cell? ⟨g, 1, none⟩ = _ := hbg.cell (j := 1) (u := .slice A np cp) rfl
      have hbp := (bs_own hop).below hbl
      obtain ⟨A', c', e', hnc', hm', _⟩ := own_form hop
      injection e' with e1 e2 e3
      subst e1 e3
      clear e2
      rw [hlen]
      rw [hlen] at hblk
      have Hfin := Lib.hid (show chainBytes qs ++ (p ++ done) = xs by rw [← hxq, chainBytes, List.append_assoc])
      have hszq : sz = (chainBytes qs).length + np + done.length := by rw [← Hsz.out, ← Hfin.out, List.length_append, List.length_append, ← Hp.out]; omega
      clear hxq hlen hop
      generalize hq : (chainBytes qs).length = q at *
      have Hq := Lib.hid hq
      have Hs := Lib.hid hszq
      have t1 : (q : Int) ≤ (sz : Int) := by omega
      have t1' : q ≤ sz := by omega
      have t3 : ¬ sz = q := by omega
      have t4 : (0 : Int) ≤ (q : Int) := by omega
      have t5 : sz - q = np + done.length := by omega
      have Hsrc : ∃ ad, A = some ad ∧ ∀ j v, (bvs p)[j]? = some v → wr.drew.cell? (ad.add j) = some v := by
        obtain ⟨b, o, e, _⟩ := hbp.at_ hnp
        subst e
        refine ⟨_, rfl, fun j v hv => ?_⟩
        obtain ⟨b', o', e', hc'⟩ := hbp.2 j v hv
        injection e' with e'
        injection e' with e1 e2
        subst e1 e2
        rw [add_plain]
        exact hc'
      have hcs : (bvs p).length = Nat.min np (np + done.length) := by show _ = min np (np + done.length); rw [bvs_length, ← Hp.out, Nat.min_eq_left (by omega)]
      have hfit : q + (bvs p).length ≤ (List.replicate (q + np) (Value.int .u8 0) ++ bvs done).length := by rw [bvs_length, ← Hp.out]; simp
      have hinf : (Try.prog.info? 5).map (·.size) = some 1 := by rw [hi0]; simp [hz1]
      have Hc := Lib.hid hcs
      have Hnew := Lib.hid (show splice (List.replicate (q + np) (Value.int .u8 0) ++ bvs done) q (bvs p) = List.replicate q (Value.int .u8 0) ++ bvs (p ++ done) by
        unfold splice
        rw [bvs_length, ← Hp.out, List.take_append_of_le_length (by simp), List.take_replicate, Nat.min_eq_left (by omega), List.drop_append_of_le_length (by simp), List.drop_replicate, Nat.sub_self, List.replicate_zero, List.nil_append, bvs_append])
      clear hq hszq hbg hb c0 c1 Hx hcs
      go_wp2_with fail
      go_region_held3 (fun w' => w'.cell? ⟨g, 1, none⟩ = some (.slice A np cp)) (first | go_keep | (rw [hb4.cell (by simp; omega)]; exact hd1))
        (first
          | (refine step_copy_splice rfl (.tmp 36) (.tmp 40) _ _ rfl 5 Try.underlying22 hinf _ _ _ _ _ _ rfl rfl w.heap.size q _ 5 hblk (bvs p) Hc.out (fun _ => ⟨rfl, Hsrc⟩) hfit (bvs_one _) w.heap.size w hbl.drew (Nat.le_refl _) ?_
             intro w4 hg4 hb4))
      rw [Hnew.out] at hg4
      have d0' : w4.cell? ⟨g, 0, none⟩ = some (.pointer pa) := (hb4.cell hgl).trans ((hbl.cell hgl).symm.trans d0)
      clear d0 d1 hd1 hbl hbp Hsrc hfit hblk Hc Hnew hinf
      go_wp2
      go_roundw
      case rel => exact ⟨qs, pa, p ++ done, rfl, hcr, Hfin.out, by rw [Hq.out], by rw [Hq.out]; exact hg4.out, hb4⟩
      case measure => simp [intOf]; omega
theorem bytes_ (bw : Nat) (xs : List UInt8) (w : World) (hw : Wr w bw xs) (hn : xs.length ≤ 140737488355328) :
    Calls Try.prog 31 #[.pointer (some ⟨bw, 0, none⟩)] w fun e w' => e = .returned (.slice (some ⟨w.heap.size, 0, none⟩) xs.length xs.length) ∧ Blk w' w.heap.size 5 (bvs xs).toArray ∧ Below w.heap.size w w' :=
  bytes3_ bw (bw + 1) xs w hw hn
end Go.Proofs.Ytallbhdfbkkjkaa
