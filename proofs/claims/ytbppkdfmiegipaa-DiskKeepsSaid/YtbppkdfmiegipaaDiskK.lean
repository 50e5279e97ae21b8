/- Proves DiskKeeps of layer 3 (disks), for every input, with no condition: what was flushed is there behind a Start, unless it was written again: then it is just as it was, or as it was written last. -/
import Derived.Test.YtbppkdfmiegipaaDiskX
import Derived.Deep.DeepCutAuto
import Derived.Deep.CutBlock
namespace Go.Proofs.Ytbppkdfmiegipaa
open Go.ChangeShapes Go.WideShapes Go.ChangeAt Go.RowKit Go.Maps

/-- A row of texts. -/
def SRow (w : World) (b n : Nat) (f : Nat → List UInt8) : Prop := ∃ cur, Blk w b 9 cur ∧ cur.size = n ∧ ∀ j, j < n → cur[j]? = some (strOf (f j))
theorem SRow.lt {w : World} {b n : Nat} {f : Nat → List UInt8} (h : SRow w b n f) : b < w.heap.size := by obtain ⟨_, h, _⟩ := h; exact h.lt
theorem SRow.cell {w : World} {b n : Nat} {f : Nat → List UInt8} (h : SRow w b n f) {j : Nat} (hj : j < n) : w.cell? ⟨b, j, none⟩ = some (strOf (f j)) := by
  obtain ⟨cur, hb, _, hc⟩ := h
  exact hb.cell (hc j hj)
theorem SRow.free {w : World} {b n : Nat} {f : Nat → List UInt8} (h : SRow w b n f) (j : Nat) : w.frozen? ⟨b, j, none⟩ = false := by
  obtain ⟨cur, hb, _⟩ := h
  exact hb.free j
theorem SRow.tn {w w' : World} {lo hi b n : Nat} {f : Nat → List UInt8} (h : SRow w b n f) (ht : Tn lo hi w w') (ho : b < lo ∨ hi ≤ b) : SRow w' b n f := by
  obtain ⟨cur, hb, r⟩ := h
  exact ⟨cur, ht.blk hb ho, r⟩
theorem SRow.below {w w' : World} {b n : Nat} {f : Nat → List UInt8} (h : SRow w b n f) (hb : Below w.heap.size w w') : SRow w' b n f := h.tn (Tn.ofBelow (lo := 0) (hi := 0) hb (Nat.le_refl _)) (by omega)
theorem SRow.drew {w : World} {b n : Nat} {f : Nat → List UInt8} (h : SRow w b n f) : SRow w.drew b n f := h
theorem SRow.congr {w : World} {b n : Nat} {f f' : Nat → List UInt8} (h : SRow w b n f) (he : ∀ j, j < n → f j = f' j) : SRow w b n f' := by
  obtain ⟨cur, hb, hs, hc⟩ := h
  exact ⟨cur, hb, hs, fun j hj => by rw [← he j hj]; exact hc j hj⟩
theorem SRow.set {w : World} {b n : Nat} {f : Nat → List UInt8} (h : SRow w b n f) {i : Nat} (hi : i < n) (xs : List UInt8) : SRow (w.setCell ⟨b, i, none⟩ (strOf xs)) b n (fun j => if j = i then xs else f j) := by
  obtain ⟨cur, hb, hs, hc⟩ := h
  refine ⟨_, hb.setCell i (strOf xs), by simpa using hs, fun j hj => ?_⟩
  by_cases e : j = i
  · subst e
    simp only [if_true]
    rw [Array.getElem?_setIfInBounds_self_of_lt (by omega)]
  · simp only [if_neg e]
    rw [Array.getElem?_setIfInBounds_ne (by omega)]
    exact hc j hj
theorem info_string : (Try.prog.info? 9).map (fun i => (i.zero, i.size, i.bytes)) = some (some (.string ⟨#[]⟩), 1, 16) := by kernel_rfl
theorem SRow.made {w : World} {b n : Nat} (h : Blk w b 9 (madeCells #[.string ⟨#[]⟩] (n * 1))) : SRow w b n (fun _ => []) :=
  ⟨_, h, by rw [size_madeCells, Nat.mul_one], fun j hj => by
    simp only [madeCells, Array.getElem?_map]
    rw [Array.getElem?_eq_getElem (by simpa using hj)]
    simp [Nat.mod_one]⟩
theorem size_string : (Try.prog.info? 9).map (·.size) = some 1 := by kernel_rfl
/-- 'copy(x, y)', both rows of as many texts. -/
theorem wpList_copy_rows (w : World) {ops : Array Oper} {rest : List Oper} {o : Oper} {a : Act} {Q : Exit → Act → World → Prop} (hg : o.guard = none) (x y : Operand) (T : TypeId) (hop : o.op = Op.call { callee := Callee.builtin Builtin.copy, args := #[x, y], argTypes := #[T, T] })
    (hT : Try.prog.underlying T = some (.slice 9)) (b c n : Nat) (f h : Nat → List UInt8) (hb : SRow w b n f) (hc : SRow w c n h) (hvx : a.eval x = .slice (some ⟨b, 0, none⟩) n n) (hvy : a.eval y = .slice (some ⟨c, 0, none⟩) n n)
    (hK : ∀ z w', SRow w' b n h → Tn b (b + 1) w w' → wpList Try.prog ops Q rest (a.put o.dst z) w') :
    wpList Try.prog ops Q (o :: rest) a w := by
  refine wpList_plain hg fun K' hK' => ?_
  obtain ⟨cb, hbb, hbs, _⟩ := hb
  obtain ⟨cc, hcb, hcs, hcc⟩ := hc
  have hrun := run_copy_cells (P := Try.prog) w T T o.type 9 b 0 n n ⟨c, 0, none⟩ n n cc.toList hT size_string (by simp [hcs])
    (fun j v hj => by rw [add_plain, Nat.zero_add]; exact hcb.cell (by simpa using hj)) (fun j hj => ((hbb.there 0 n (by omega)) j (by simpa [hcs] using hj)).1) (fun j hj => hbb.free _) (fun v hv => by
      obtain ⟨j, hj, rfl⟩ := List.getElem_of_mem hv
      have := hcc j (by simpa [hcs] using hj)
      rw [Array.getElem?_eq_getElem (by simpa using hj)] at this
      injection this with this
      rw [Array.getElem_toList, this]; rfl)
  have hb' := hbb.sets (vs := cc.toList) (o := 0) (by simp; omega)
  unfold Oper.wp
  simp [execOp, hop, resolve, invoke, builtin, hvx, hvy, hrun, Result.andThen]
  refine hK' _ _ (hK _ _ ⟨_, hb', ?_, fun j hj => ?_⟩ (Tn.sets (Nat.le_refl _) (Nat.lt_succ_self _) _ _ _))
  · simp; omega
  · simp only [List.take_zero, List.nil_append, Nat.zero_add, Array.length_toList]
    rw [List.drop_eq_nil_of_le (by simp; omega), List.append_nil]
    simpa using hcc j hj

/-- The disk stands at s; the two rows tell what was flushed, and what was written last. -/
structure KeepAt (w w' : World) (g F n : Nat) (s : DS) : Prop where
  disk : Dk w' g s
  size : s.n = n
  flushed : SRow w' F n s.plate
  written : SRow w' (F + 1) n s.look
  below : Below w.heap.size w w'
theorem fill_step (k j : Nat) : (if j = k then zeros else if j < k then zeros else []) = if j < k + 1 then zeros else [] := by
  by_cases h1 : j = k
  · rw [if_pos h1, if_pos (by omega)]
  · rw [if_neg h1]
    by_cases h2 : j < k
    · rw [if_pos h2, if_pos (by omega)]
    · rw [if_neg h2, if_neg (by omega)]

theorem keep_step {f : Nat → List UInt8} {k : Nat} {X : List UInt8} (hX : f k = X) (h : Nat → List UInt8) (j : Nat) : (if j = k then X else if j < k then f j else h j) = if j < k + 1 then f j else h j := by
  by_cases h1 : j = k
  · subst h1; rw [if_pos rfl, if_pos (by omega), hX]
  · rw [if_neg h1]
    by_cases h2 : j < k
    · rw [if_pos h2, if_pos (by omega)]
    · rw [if_neg h2, if_neg (by omega)]

set_option maxRecDepth 100000 in
set_option maxHeartbeats 8000000 in
theorem diskKeeps_walk (z : Int) (S : Option Addr) (sn sc : Nat) (l : List ActV) (w : World) (hz : -9223372036854775808 ≤ z ∧ z ≤ 9223372036854775807)
    (hl : (Shp.slice actShp 64).R w [.slice S sn sc] l) (hsn : sn ≤ 9223372036854775807) :
    Calls Try.prog 4 #[.int .i64 z, .slice S sn sc] w fun e w' => e = .returned (.bool true) ∧ Below w.heap.size w w' := by
  obtain ⟨r, hr, hr15⟩ := and15 z
  obtain ⟨i0, hi0, hz0, hz1, hz2⟩ := info_parts info_string
  have Hz1 := Lib.hid hz1
  have Hz2 := Lib.hid hz2
  clear hz1 hz2
  go_enter Try.func4, Try.ntmps4
  go_wp2_with fail
  refine (new_ (r + 1) w (by omega) (by omega)).mono ?_
  rintro e w2 ⟨g, rfl, hg, h2, hb2⟩
  go_wp2_with fail
  refine (alive_ _).mono ?_
  rintro e w4 ⟨rfl, hb4⟩
  have h4 := h2.below hb4
  have hg0 : w.heap.size ≤ g := by omega
  have hB4 : Below w.heap.size w w4 := hb2.trans (hb4.mono hb2.size)
  have hn4 : (DS.fresh (r + 1)).n = r + 1 := rfl
  have hl4 := h4.lt
  clear h2 hb2 hb4 hg
  go_wp2_with (first
    | (at_make
       refine wpList_make_blk _ rfl (.tmp 37) (.tmp 37) 50 rfl 9 i0 _ 1 16 Try.underlying50 hi0 hz0 Hz1.out Hz2.out .i64 .i64 _ _ (r + 1) rfl rfl rfl rfl (by omega) (by omega) ?_
       intro w5 hk5 hb5 hs5)
    | (at_make
       refine wpList_make_blk _ rfl (.tmp 39) (.tmp 39) 50 rfl 9 i0 _ 1 16 Try.underlying50 hi0 hz0 Hz1.out Hz2.out .i64 .i64 _ _ (r + 1) rfl rfl rfl rfl (by omega) (by omega) ?_
       intro w6 hk6 hb6 hs6)
    | fail)
  have hF6 := SRow.made (hk5.keep hb6)
  have hW6 := SRow.made hk6
  rw [hs5] at hW6
  have hb46 : Below w4.heap.size w4 w6 := hb5.trans (hb6.mono hb5.size)
  have h6 := h4.below hb46
  have hB6 : Below w.heap.size w w6 := hB4.trans (hb46.mono hB4.size)
  have hsw := hB4.size
  clear hk5 hb5 hk6 hb6 hb46 h4 hB4 hs5 hs6
  generalize w4.heap.size = F at *
  go_loopw [43] (fun iv wr => ∃ k : Nat, k ≤ r + 1 ∧ iv = .int .i64 (k : Int) ∧ Dk wr g (DS.fresh (r + 1)) ∧ SRow wr F (r + 1) (fun j => if j < k then zeros else []) ∧ SRow wr (F + 1) (r + 1) (fun j => if j < k then zeros else []) ∧ Below w.heap.size w wr) (fun iv _ => r + 1 - (intOf iv).toNat)
  case atStart => exact ⟨0, Nat.zero_le _, rfl, h6, hF6.congr (fun j _ => by simp), hW6.congr (fun j _ => by simp), hB6⟩
  case round =>
    obtain ⟨k, hk, rfl, hs, hF, hW, hb⟩ := hrel
    clear h6 hF6 hW6 hB6
    have hbs := hb.size
    by_cases hlt : k < r + 1
    · have hkl : (k : Int) < (r : Int) + 1 := by omega
      have hFl := hF.lt
      have hWl := hW.lt
      go_wp2_with fail
      refine (full_ none 0 0 [] _ Bs.nil (fun _ => ⟨rfl, rfl⟩) (by decide)).mono ?_
      rw [pad_nil]
      rintro e w7 ⟨rfl, hb7⟩
      go_wp2_with fail
      refine (full_ none 0 0 [] _ Bs.nil (fun _ => ⟨rfl, rfl⟩) (by decide)).mono ?_
      rw [pad_nil]
      rintro e w8 ⟨rfl, hb8⟩
      have hb78 : Below wr.heap.size wr w8 := hb7.trans (hb8.mono hb7.size)
      have h8 := hs.below hb78
      have hF8 := hF.below hb78
      have hW8 := hW.below hb78
      have hB8 : Below w.heap.size w w8 := hb.trans (hb78.mono hb.size)
      have c1 := hF8.cell hlt
      have f1 := hF8.free k
      have c2 := hW8.cell hlt
      have f2 := hW8.free k
      have hF8l := hF8.lt
      have hW8l := hW8.lt
      clear hb7 hb8 hb78 hs hF hW hb
      go_wp2_with fail
      have t1 : Tn F (F + 1) w8 (w8.setCell ⟨F, k, none⟩ (strOf zeros)) := Tn.set _ _ _ (Nat.le_refl _) (Nat.lt_succ_self _)
      have t2 : Tn (F + 1) (F + 2) (w8.setCell ⟨F, k, none⟩ (strOf zeros)) ((w8.setCell ⟨F, k, none⟩ (strOf zeros)).setCell ⟨F + 1, k, none⟩ (strOf zeros)) := Tn.set _ _ _ (Nat.le_refl _) (Nat.lt_succ_self _)
      have t3 : Tn F (F + 2) w8 ((w8.setCell ⟨F, k, none⟩ (strOf zeros)).setCell ⟨F + 1, k, none⟩ (strOf zeros)) := (t1.wide (Nat.le_refl _) (by omega)).trans (t2.wide (by omega) (Nat.le_refl _))
      have hF9 := (hF8.set hlt zeros).tn t2 (by omega)
      have hW9 := (hW8.tn t1 (by omega)).set hlt zeros
      have h9 := h8.tn t3 (by omega)
      have hB9 := hB8.trans (t3.below (B := w.heap.size) (by omega) (by omega))
      go_roundw
      case rel => exact ⟨k + 1, by omega, by go_num, h9, hF9.congr (fun j _ => fill_step k j), hW9.congr (fun j _ => fill_step k j), hB9⟩
      case measure => simp [intOf]; omega
    · have hFf : SRow wr F (r + 1) (DS.fresh (r + 1)).plate := hF.congr fun j hj => by rw [if_pos (by omega)]; rfl
      have hWf : SRow wr (F + 1) (r + 1) (DS.fresh (r + 1)).look := hW.congr fun j hj => by rw [if_pos (by omega)]; rfl
      have hkl : (r : Int) + 1 ≤ (k : Int) := by omega
      clear hF hW hk hlt
      generalize DS.fresh (r + 1) = s4 at *
      go_wp2_with fail
      obtain ⟨wo, hwo⟩ : ∃ wo : World, wo = wr := ⟨_, rfl⟩
      clear hwo
      go_loopw [57] (fun iv wr => ∃ (k : Nat) (s : DS), k ≤ sn ∧ iv = .int .i64 (k : Int) ∧ Dk wr g s ∧ s.n = r + 1 ∧ SRow wr F (r + 1) s.plate ∧ SRow wr (F + 1) (r + 1) s.look ∧ Below w.heap.size w wr) (fun iv _ => sn - (intOf iv).toNat)
      case atStart => exact ⟨0, s4, Nat.zero_le _, rfl, hs, hn4, hFf, hWf, hb⟩
      case round =>
        obtain ⟨k, s, hk, rfl, hs, hn, hF, hW, hb⟩ := hrel
        clear hFf hWf hn4
        have hbs := hb.size
        have hFl := hF.lt
        have hWl := hW.lt
        by_cases hlt : k < sn
        · obtain ⟨b, o, rfl, kd1, i1, A1, B1, n1, c1, m1, d1, xs1, ks1, hkd1, hi1, e0, e1, e2, e3, q1, q2, q3, q4, q5, q6, q7, _⟩ := acts_later hl hb hlt
          have hkl : (k : Int) < (sn : Int) := by omega
          have el := cell_lt e0
          have ht' : Tn 0 0 wr (wr.alloc (.cells #[.int .u8 (kd1 : Int), .int .i64 i1, .slice A1 n1 c1, .slice B1 m1 d1] 36)) := Tn.alloc _ _
          have hac := Blk.new wr 36 #[.int .u8 (kd1 : Int), .int .i64 i1, .slice A1 n1 c1, .slice B1 m1 d1] rfl
          have hb' := ht'.only (Nat.le_refl _)
          clear hl
          go_wp2_with fail
          refine (does_ g s kd1 i1 A1 B1 n1 c1 m1 d1 xs1 ks1 _ (hs.below hb') hkd1 hi1 (q1.below hb') q2 q3 (Rd.below q4 hb') q5 (fun a ha h0 => by have := q6 a ha h0; omega) (fun a ha h0 => by have := q7 a ha h0; omega)).mono ?_
          rintro e w5 ⟨rfl, h5, ht5⟩
          have hac5 := ht5.blk hac (by omega)
          have q15 := ht5.bs (q1.below hb') (fun a ha h0 => by have := q6 a ha h0; omega)
          have hF5 := (hF.below hb').tn ht5 (by omega)
          have hW5 := (hW.below hb').tn ht5 (by omega)
          have hB5 : Below w.heap.size w w5 := (hb.alloc hb.size _).trans (ht5.below (by omega) (by simp; omega))
          have hl5 := hac5.lt
          have hn5 := (does_n s kd1 i1 xs1 ks1).trans hn
          clear hs ht5 hb hb' ht' hac e0 e1 e2 e3 q1 q4 hF hW
          have a0 := hac5.cell (j := 0) (u := .int .u8 (kd1 : Int)) rfl
          have a1 := hac5.cell (j := 1) (u := .int .i64 i1) rfl
          have a2 := hac5.cell (j := 2) (u := .slice A1 n1 c1) rfl
          have kk : 0 ≤ (kd1 : Int) := by omega
          have hW5l := hW5.lt
          have h5l := h5.lt
          have hwl5 := hB5.size
          go_upto_block 4 with fail
          go_cut [12] (fun _ wc => KeepAt w wc g F (r + 1) (s.does kd1 i1 xs1 ks1).2)
          case first =>
            cases hok : (s.does kd1 i1 xs1 ks1).1 with
            | false =>
              obtain ⟨p1, p2⟩ := undone hok
              go_wp2_with fail
              go_meet
              exact ⟨h5, hn5, by rw [p1]; exact hF5, by rw [p2]; exact hW5, hB5⟩
            | true =>
              by_cases t0 : kd1 % 7 = 0
              · obtain ⟨p0, p1, p2, p3⟩ := done_write t0 hok
                obtain ⟨j, rfl⟩ := Int.eq_ofNat_of_zero_le p0.1
                have hjn : j < r + 1 := by have := p0.2; omega
                have hji : (j : Int) < (r : Int) + 1 := by omega
                have q := mod7 t0
                have P2 := Lib.hid p2
                have P3 := Lib.hid p3
                have hn64 : n1 ≤ 64 := by rw [q15.len]; exact p1
                clear t0 p0 p1 p2 p3
                go_wp2_with fail
                go_region_held3 (fun w' => w'.cell? ⟨wr.heap.size, 1, none⟩ = some (.int .i64 (j : Int)) ∧ w'.cell? ⟨wr.heap.size, 2, none⟩ = some (.slice A1 n1 c1))
                  (first
                    | exact ⟨a1, a2⟩
                    | exact ⟨b1, b2⟩
                    | exact ⟨(World.cell?_setCell_other w6 _ _ _ (by intro e; injection e with e; omega)).trans b1, (World.cell?_setCell_other w6 _ _ _ (by intro e; injection e with e; omega)).trans b2⟩)
                  (first
                    | (go_at_call 29
                       refine (full_ A1 n1 c1 xs1 _ (show Bs w5.drew A1 n1 xs1 from q15) q2 hn64).mono ?_
                       rintro e w6 ⟨rfl, hb6⟩
                       have hb6' : Below w5.heap.size w5 w6 := ⟨hb6.os, hb6.tape, hb6.output, hb6.size, hb6.block⟩
                       have hac6 := hac5.keep hb6'
                       have b1 := hac6.cell (j := 1) (u := .int .i64 (j : Int)) rfl
                       have b2 := hac6.cell (j := 2) (u := .slice A1 n1 c1) rfl
                       have cW := (hW5.below hb6').cell hjn
                       have fW := (hW5.below hb6').free j))
                have hb6' : Below w5.heap.size w5 w6 := ⟨hb6.os, hb6.tape, hb6.output, hb6.size, hb6.block⟩
                have ht7 : Tn (F + 1) (F + 2) w6 (w6.setCell ⟨F + 1, j, none⟩ (strOf (pad xs1))) := Tn.set _ _ _ (Nat.le_refl _) (Nat.lt_succ_self _)
                have hs6 := hb6'.size
                go_wp2_with fail
                go_meet
                exact ⟨(h5.below hb6').tn ht7 (by omega), hn5, by rw [P2.out]; exact (hF5.below hb6').tn ht7 (by omega), ((hW5.below hb6').set hjn (pad xs1)).congr fun k _ => (P3.out k).symm, (hB5.trans (hb6'.mono hwl5)).trans (ht7.below (by omega) (by omega))⟩
              by_cases t2 : kd1 % 7 = 2
              · obtain ⟨p1, p2⟩ := done_flush t2 hok
                have q := mod7 t2
                have P1 := Lib.hid p1
                have P2 := Lib.hid p2
                clear t0 t2 p1 p2
                go_wp2_with (first
                  | (refine wpList_copy_rows _ rfl (.tmp 84) (.tmp 85) 50 rfl Try.underlying50 F (F + 1) (r + 1) _ _ hF5 hW5 rfl rfl ?_
                     intro z6 w6 hF6 ht6)
                  | fail)
                go_meet
                exact ⟨h5.tn ht6 (by omega), hn5, by rw [P1.out]; exact hF6, by rw [P2.out]; exact hW5.tn ht6 (by omega), hB5.trans (ht6.below (by omega) (by omega))⟩
              by_cases t5 : kd1 % 7 = 5
              · obtain ⟨p1, p2, p3⟩ := done_start t5 hok
                have q := mod7 t5
                have P2 := Lib.hid p2
                have P3 := Lib.hid p3
                have P1 := Lib.hid p1
                clear t0 t2 t5 p1 p2 p3
                have hFi : SRow w5 F (r + 1) (fun j => if j < 0 then (s.does kd1 i1 xs1 ks1).2.look j else s.plate j) := hF5.congr fun j _ => by simp
                have hWi : SRow w5 (F + 1) (r + 1) (fun j => if j < 0 then (s.does kd1 i1 xs1 ks1).2.look j else s.look j) := hW5.congr fun j _ => by simp
                have hgF : g + 2 < F := hl4
                go_wp2_with fail
                clear a0 a1 a2 q15 hac5
                obtain ⟨wp, hwp⟩ : ∃ wp : World, wp = wr := ⟨_, rfl⟩
                clear hwp
                go_loopw [94] (fun iv wr => ∃ k : Nat, k ≤ r + 1 ∧ iv = .int .i64 (k : Int) ∧ Dk wr g (s.does kd1 i1 xs1 ks1).2 ∧ SRow wr F (r + 1) (fun j => if j < k then (s.does kd1 i1 xs1 ks1).2.look j else s.plate j) ∧ SRow wr (F + 1) (r + 1) (fun j => if j < k then (s.does kd1 i1 xs1 ks1).2.look j else s.look j) ∧ Below w.heap.size w wr) (fun iv _ => r + 1 - (intOf iv).toNat)
                case atStart => exact ⟨0, Nat.zero_le _, rfl, h5, hFi, hWi, hB5⟩
                case round =>
                  obtain ⟨k3, hk3, rfl, hs3, hF3, hW3, hb3⟩ := hrel
                  clear h5 hFi hWi hF5 hW5 hB5
                  have hbs3 := hb3.size
                  by_cases hlt3 : k3 < r + 1
                  · have hkl3 : (k3 : Int) < (r : Int) + 1 := by omega
                    have hrd := read_on (s := (s.does kd1 i1 xs1 ks1).2) P1.out (j := k3) (by rw [hn5]; exact hlt3)
                    have HR := Lib.hid hrd
                    clear hrd
                    go_wp2_with fail
                    refine (read_ g _ k3 _ hs3).mono ?_
                    rw [HR.out]
                    rintro e w7 ⟨v7, rfl, hgot7, hpl, hb7⟩
                    have hpq : ((s.does kd1 i1 xs1 ks1).2.look k3).length = 64 := hpl rfl
                    clear hpl
                    have hPX := P3.out k3
                    have hgot7' : Got wr w7 v7 ((s.does kd1 i1 xs1 ks1).2.look k3) := hgot7
                    clear hgot7
                    obtain ⟨hf7, _⟩ | ⟨q7x, rfl, _, hq7x, hk7⟩ := hgot7'
                    · rw [hf7] at hpq; cases hpq
                    have h7 := hs3.below hb7
                    have hF7 := hF3.below hb7
                    have hW7 := hW3.below hb7
                    have hB7 : Below w.heap.size w w7 := hb3.trans (hb7.mono hb3.size)
                    have cF := hF7.cell hlt3
                    have cW := hW7.cell hlt3
                    simp only [Nat.lt_irrefl, if_false] at cF cW
                    have fF := hF7.free k3
                    have fW := hW7.free k3
                    have hF7l := hF7.lt
                    have hW7l := hW7.lt
                    have h7l := h7.lt
                    have hc7 := one_str (q := q7x) hpq
                    have hone : One w7 q7x ((s.does kd1 i1 xs1 ks1).2.look k3) := hk7
                    obtain ⟨X, hX⟩ : ∃ X, (s.does kd1 i1 xs1 ks1).2.look k3 = X := ⟨_, rfl⟩
                    rw [hX] at hPX hc7 hone
                    have HX := Lib.hid hX
                    clear hs3 hF3 hW3 hb3 hb7 hq7x HR hk7 hX hpq
                    generalize s.plate k3 = Pv at *
                    generalize s.look k3 = Lv at *
                    by_cases hxp : X = Pv
                    · subst hxp
                      clear hPX
                      have k1 := fun (k : Nat) => hc7 (w7.drewN k) hone
                      go_wp2_with fail
                      go_quiet (fail)
                      go_wp2_with fail
                      obtain ⟨wq, hwq⟩ : ∃ wq, wq = w7.drewN nq := ⟨_, rfl⟩
                      have hF7q : SRow wq F (r + 1) (fun j => if j < k3 then (s.does kd1 i1 xs1 ks1).2.look j else s.plate j) := by rw [hwq]; exact hF7
                      have hW7q : SRow wq (F + 1) (r + 1) (fun j => if j < k3 then (s.does kd1 i1 xs1 ks1).2.look j else s.look j) := by rw [hwq]; exact hW7
                      have h7q : Dk wq g (s.does kd1 i1 xs1 ks1).2 := by rw [hwq]; exact h7.drewN nq
                      have hB7q : Below w.heap.size w wq := by rw [hwq]; exact below_drewN hB7 nq
                      have hlq : w.heap.size ≤ wq.heap.size := hB7q.size
                      rw [← hwq]
                      have ht8 : Tn F (F + 1) wq (wq.setCell ⟨F, k3, none⟩ (strOf X)) := Tn.set _ _ _ (Nat.le_refl _) (Nat.lt_succ_self _)
                      have ht9 : Tn (F + 1) (F + 2) (wq.setCell ⟨F, k3, none⟩ (strOf X)) ((wq.setCell ⟨F, k3, none⟩ (strOf X)).setCell ⟨F + 1, k3, none⟩ (strOf X)) := Tn.set _ _ _ (Nat.le_refl _) (Nat.lt_succ_self _)
                      have ht10 : Tn F (F + 2) wq ((wq.setCell ⟨F, k3, none⟩ (strOf X)).setCell ⟨F + 1, k3, none⟩ (strOf X)) := ((ht8.wide (Nat.le_refl _) (by omega)).trans (ht9.wide (by omega) (Nat.le_refl _)))
                      have hF9 := (hF7q.set hlt3 X).tn ht9 (by omega)
                      have hW9 := (hW7q.tn ht8 (by omega)).set hlt3 X
                      have h9 := h7q.tn ht10 (by omega)
                      have hB9 := hB7q.trans (ht10.below (B := w.heap.size) (by omega) (by omega))
                      go_roundw
                      case rel => exact ⟨k3 + 1, by omega, by go_num, h9, hF9.congr (fun j _ => keep_step HX.out s.plate j), hW9.congr (fun j _ => keep_step HX.out s.look j), hB9⟩
                      case measure => simp [intOf]; omega
                    · obtain rfl : X = Lv := hPX.resolve_left hxp
                      have hne : (X == Pv) = false := by simpa using hxp
                      clear hPX hxp
                      have k1 := fun (k : Nat) => hc7 (w7.drewN k) hone
                      go_wp2_with fail
                      go_quiet (fail)
                      go_wp2_with fail
                      obtain ⟨wq, hwq⟩ : ∃ wq, wq = w7.drewN nq := ⟨_, rfl⟩
                      have hF7q : SRow wq F (r + 1) (fun j => if j < k3 then (s.does kd1 i1 xs1 ks1).2.look j else s.plate j) := by rw [hwq]; exact hF7
                      have hW7q : SRow wq (F + 1) (r + 1) (fun j => if j < k3 then (s.does kd1 i1 xs1 ks1).2.look j else s.look j) := by rw [hwq]; exact hW7
                      have h7q : Dk wq g (s.does kd1 i1 xs1 ks1).2 := by rw [hwq]; exact h7.drewN nq
                      have hB7q : Below w.heap.size w wq := by rw [hwq]; exact below_drewN hB7 nq
                      have hlq : w.heap.size ≤ wq.heap.size := hB7q.size
                      rw [← hwq]
                      have ht8 : Tn F (F + 1) wq (wq.setCell ⟨F, k3, none⟩ (strOf X)) := Tn.set _ _ _ (Nat.le_refl _) (Nat.lt_succ_self _)
                      have ht9 : Tn (F + 1) (F + 2) (wq.setCell ⟨F, k3, none⟩ (strOf X)) ((wq.setCell ⟨F, k3, none⟩ (strOf X)).setCell ⟨F + 1, k3, none⟩ (strOf X)) := Tn.set _ _ _ (Nat.le_refl _) (Nat.lt_succ_self _)
                      have ht10 : Tn F (F + 2) wq ((wq.setCell ⟨F, k3, none⟩ (strOf X)).setCell ⟨F + 1, k3, none⟩ (strOf X)) := ((ht8.wide (Nat.le_refl _) (by omega)).trans (ht9.wide (by omega) (Nat.le_refl _)))
                      have hF9 := (hF7q.set hlt3 X).tn ht9 (by omega)
                      have hW9 := (hW7q.tn ht8 (by omega)).set hlt3 X
                      have h9 := h7q.tn ht10 (by omega)
                      have hB9 := hB7q.trans (ht10.below (B := w.heap.size) (by omega) (by omega))
                      go_roundw
                      case rel => exact ⟨k3 + 1, by omega, by go_num, h9, hF9.congr (fun j _ => keep_step HX.out s.plate j), hW9.congr (fun j _ => keep_step HX.out s.look j), hB9⟩
                      case measure => simp [intOf]; omega
                  · have hkl3 : (r : Int) + 1 ≤ (k3 : Int) := by omega
                    go_wp2_with fail
                    go_meet
                    exact ⟨hs3, hn5, by rw [P2.out]; exact hF3.congr fun j hj => by rw [if_pos (by omega)], hW3.congr fun j hj => by rw [if_pos (by omega)], hb3⟩
              · obtain ⟨p1, p2⟩ := done_other (s := s) (i := i1) (xs := xs1) (ks := ks1) t0 t2 t5
                have q0 : ((kd1 : Int) % 7 == 0) = false := by rw [beq_eq_false_iff_ne]; omega
                have q2' : ((kd1 : Int) % 7 == 2) = false := by rw [beq_eq_false_iff_ne]; omega
                have q5' : ((kd1 : Int) % 7 == 5) = false := by rw [beq_eq_false_iff_ne]; omega
                have P1 := Lib.hid p1
                have P2 := Lib.hid p2
                clear t0 t2 t5 p1 p2
                go_wp2_with fail
                go_meet
                exact ⟨h5, hn5, by rw [P1.out]; exact hF5, by rw [P2.out]; exact hW5, hB5⟩
          case rest =>
            obtain ⟨h6, hn6, hF6, hW6, hB6⟩ := hcut
            clear h5 hn5 hF5 hW5 hB5 hac5 q15 a0 a1 a2 hl5 hW5l h5l hwl5 q2 q3 q5 q6 q7
            generalize (s.does kd1 i1 xs1 ks1).2 = s6 at *
            have hl6 := h6.lt
            go_wp2_with fail
            refine (on_ g s6 _ h6).mono ?_
            cases hon : s6.on with
            | false =>
              rintro e w' ⟨rfl, rfl⟩
              go_wp2
              go_roundw
              case rel => exact ⟨k + 1, s6, by omega, by go_num, h6, hn6, hF6, hW6, hB6⟩
              case measure => simp [intOf]; omega
            | true =>
              rintro e w' ⟨rfl, rfl⟩
              have HR := Lib.hid (fun (j : Nat) (hj : j < r + 1) => read_on (s := s6) hon (j := j) (by rw [hn6]; exact hj))
              clear hon
              go_wp2_with fail
              obtain ⟨wp, hwp⟩ : ∃ wp : World, wp = wr := ⟨_, rfl⟩
              clear hwp
              go_loopw [138] (fun iv wr => ∃ k : Nat, k ≤ r + 1 ∧ iv = .int .i64 (k : Int) ∧ Dk wr g s6 ∧ SRow wr F (r + 1) s6.plate ∧ SRow wr (F + 1) (r + 1) s6.look ∧ Below w.heap.size w wr) (fun iv _ => r + 1 - (intOf iv).toNat)
              case atStart => exact ⟨0, Nat.zero_le _, rfl, h6, hF6, hW6, hB6⟩
              case round =>
                obtain ⟨k3, hk3, rfl, hs3, hF3, hW3, hb3⟩ := hrel
                clear h6 hF6 hW6 hB6 hl6
                have hbs3 := hb3.size
                by_cases hlt3 : k3 < r + 1
                · have hkl3 : (k3 : Int) < (r : Int) + 1 := by omega
                  have hrd := HR.out k3 hlt3
                  have HR1 := Lib.hid hrd
                  clear hrd
                  go_wp2_with fail
                  refine (read_ g _ k3 _ hs3).mono ?_
                  rw [HR1.out]
                  rintro e w7 ⟨v7, rfl, hgot7, hpl, hb7⟩
                  have hpq : (s6.look k3).length = 64 := hpl rfl
                  clear hpl
                  have hgot7' : Got wr w7 v7 (s6.look k3) := hgot7
                  clear hgot7
                  obtain ⟨hf7, _⟩ | ⟨q7x, rfl, _, hq7x, hk7⟩ := hgot7'
                  · rw [hf7] at hpq; cases hpq
                  have h7 := hs3.below hb7
                  have hF7 := hF3.below hb7
                  have hW7 := hW3.below hb7
                  have hB7 : Below w.heap.size w w7 := hb3.trans (hb7.mono hb3.size)
                  have cW := hW7.cell hlt3
                  have hc7 := one_str (q := q7x) hpq
                  have hone : One w7 q7x (s6.look k3) := hk7
                  have k1 := fun (k : Nat) => hc7 (w7.drewN k) hone
                  clear hs3 hF3 hW3 hb3 hb7 hq7x hk7 hpq hc7 hone
                  go_wp2_with fail
                  go_quiet (fail)
                  go_wp2_with fail
                  go_roundw
                  case rel => exact ⟨k3 + 1, by omega, by go_num, h7.drewN nq, hF7, hW7, below_drewN hB7 nq⟩
                  case measure => simp [intOf]; omega
                · have hkl3 : (r : Int) + 1 ≤ (k3 : Int) := by omega
                  go_wp2
                  go_roundw
                  case rel => exact ⟨k + 1, s6, by omega, by go_num, hs3, hn6, hF3, hW3, hb3⟩
                  case measure => simp [intOf]; omega
        · have hkl : (sn : Int) ≤ (k : Int) := by omega
          go_wp2
          go_ret
          exact ⟨rfl, hb⟩

theorem diskKeeps_lifted (os : Os) (started : os.Started) (H : Type) (enc : TypeId × Value → H) :
    ReturnsInHanded {} Try.checked os 4 .any (Rows.diskKeepsSpec.pre6 enc Try.prog Try.f4 Rows.diskKeepsRow.domain false) (Rows.diskKeepsSpec.post enc Try.prog Try.f4 false true false false) := by
  refine law_lifted (C := Try.checked) (tb := 4) own_ started (by kernel_rfl) Try.func4
    (ChangeSpec.witness6 (enc := enc) (C := Try.checked) false ⟨#[], #[.int .i64 0, .slice none 0 0], []⟩ 8 (by kernel_rfl) (by kernel_rfl) (by kernel_rfl) (by kernel_rfl))
    rfl rfl Try.underlying4 laidOut_ (by kernel_rfl) (fun ds h => by match ds, h with | [_, _], _ => rfl) ?_
  intro W base args ds p hval0 hA0 _ hsz0
  have hval : ∀ (j : Nat) t v, Try.f4.params[j]? = some t → args[j]? = some v → Value.okWide Try.prog W .any base t v := hval0
  have hA : DataW.TrodAll enc Try.prog W 0 (fun _ => true) true Try.f4.params.toList args.toList ds p := hA0
  have hsz : (DataW.weightsEach Try.prog Try.f4.params.toList ds).all (· ≤ reachBytes) = true := hsz0
  clear hval0 hA0 hsz0
  rw [Try.params4] at hA hval hsz
  obtain ⟨v0, v1, d0, d1, p0, p1, rfl, rfl, rfl, h0, h1⟩ := trodAll_two hA
  obtain ⟨z0, rfl, hz0⟩ := arg_int _ _ Try.underlying3 (hval 0 _ v0 rfl rfl) h0 wf_i64
  obtain ⟨A1, n1, c1, xs1, rfl, r1, b1⟩ := arg_slice ops_acts Try.underlying22 (hval 1 _ v1 rfl rfl) h1 (weight_at hsz (j := 1) rfl rfl)
  exact diskKeeps_walk z0 A1 n1 c1 xs1 W hz0 r1 (acts_len r1)

/-- DiskKeeps, for every input: the statement as it was given. -/
theorem diskKeeps_holds : Rows.DiskKeepsSaid :=
  OpenClaim.holds_of_wide 4 Try.f4 rfl rfl rfl rfl rfl rfl rfl ⟨rfl, rfl, rfl, rfl, rfl⟩ rfl rfl rfl rfl rfl (by kernel_rfl) Try.func4 (by kernel_rfl)
    (of_decide_eq_true (by kernel_rfl)) (by unfold Func.isWrapper; first | (rw [if_pos (by decide +kernel)]; kernel_rfl) | (rw [if_neg (by decide +kernel)]; exact ⟨rfl, rfl⟩))
    (fun os started H enc _ => diskKeeps_lifted os started H enc)
end Go.Proofs.Ytbppkdfmiegipaa
