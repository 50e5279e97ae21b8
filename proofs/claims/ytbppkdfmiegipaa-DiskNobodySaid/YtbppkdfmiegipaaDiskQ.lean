/- Proves DiskNobody of layer 3 (disks), for every input, with no condition: a disk that nobody made answers an error; bytes that were handed in, or answered, may be written over. -/
import Derived.Test.YtbppkdfmiegipaaDiskZ
import Derived.Deep.RegionHeld3
namespace Go.Proofs.Ytbppkdfmiegipaa
open Go.ChangeShapes Go.WideShapes Go.ChangeAt Go.RowKit Go.Maps

def abc : List UInt8 := [97, 98, 99]
def nb1 : DS := ((DS.fresh 1).write 0 abc).2
theorem nb_read : nb1.read 0 = (pad abc, 0) := rfl
def nb2 : DS := nb1.flush.2
theorem nb_read2 : nb2.read 0 = (pad abc, 0) := rfl
theorem abc_len : (pad abc).length = 64 := rfl

/-- Two blocks of the call's own have the same bytes. -/
def Two (w : World) (q r : Nat) (xs : List UInt8) : Prop := Blk w q 63 (bvs xs).toArray ∧ Blk w r 63 (bvs xs).toArray
theorem two_str {q r : Nat} {xs : List UInt8} (hx : xs.length = 64) : (∀ w, Two w q r xs → (convert 34 9 (.slice (some ⟨q, 0, none⟩) 64 64)).run Try.prog w = .ok (strOf xs) w) ∧ (∀ w, Two w q r xs → (convert 34 9 (.slice (some ⟨r, 0, none⟩) 64 64)).run Try.prog w = .ok (strOf xs) w) := by
  constructor
  · intro w h
    have := bs_blk h.1
    rw [hx] at this
    exact run_str this (by simp) 34 9 5 Try.underlying34 Try.underlying5 Try.underlying9 64
  · intro w h
    have := bs_blk h.2
    rw [hx] at this
    exact run_str this (by simp) 34 9 5 Try.underlying34 Try.underlying5 Try.underlying9 64

set_option maxRecDepth 100000 in
set_option maxHeartbeats 4000000 in
theorem diskNobody_walk (kd : Nat) (i : Int) (A B : Option Addr) (n c m d : Nat) (xs : List UInt8) (ks : List Bool) (w : World) (hi : -9223372036854775808 ≤ i ∧ i ≤ 9223372036854775807) (hx : Bs w A n xs) (hA : A = none → n = 0 ∧ c = 0) (hnc : n ≤ c) :
    Calls Try.prog 7 #[.agg #[.int .u8 (kd : Int), .int .i64 i, .slice A n c, .slice B m d]] w fun e w' => e = .returned (.bool true) ∧ Below w.heap.size w w' := by
  have kc := fun (w : World) (C : Array Value) (n c g : Nat) (hg : g = w.heap.size) => Joins.run_convert_bytes_const_at (P := Try.prog) w 34 5 C n c g hg Try.underlying34 Try.underlying5
  go_enter Try.func7, Try.ntmps7
  go_wp2_with fail
  obtain ⟨w3, hw3⟩ : ∃ w3, w3 = (((w.alloc (.cells #[.int .u8 (kd : Int), .int .i64 i, .slice A n c, .slice B m d] 36)).alloc (.cells #[.pointer none, .slice none 0 0, .map none, .bool false, .int .i64 0] 58)).alloc (.cells #[.pointer none, .pointer (some ⟨w.heap.size + 1, 0, none⟩)] 23)) := ⟨_, rfl⟩
  have hB3 : Below w.heap.size w w3 := by rw [hw3]; exact (((Below.refl _ w).alloc (Nat.le_refl _) _).alloc (by simp) _).alloc (by simp; omega) _
  have ha3 : Blk w3 w.heap.size 36 #[.int .u8 (kd : Int), .int .i64 i, .slice A n c, .slice B m d] := by rw [hw3]; exact ((Blk.new w _ _ rfl).alloc _).alloc _
  have hz3 : Blk w3 (w.heap.size + 1) 58 #[.pointer none, .slice none 0 0, .map none, .bool false, .int .i64 0] := by rw [hw3]; exact (Blk.new (w.alloc _) _ _ (by simp)).alloc _
  have hr3 : Blk w3 (w.heap.size + 1 + 1) 23 #[.pointer none, .pointer (some ⟨w.heap.size + 1, 0, none⟩)] := by rw [hw3]; exact Blk.new ((w.alloc _).alloc _) _ _ (by simp)
  rw [← hw3]
  clear hw3
  have c1 := ha3.cell (j := 1) (u := .int .i64 i) rfl
  have c2 := ha3.cell (j := 2) (u := .slice A n c) rfl
  have c3 := ha3.cell (j := 3) (u := .slice B m d) rfl
  have hno1 : NoDk w3 (.pointer none) := .inl rfl
  have hno2 : NoDk w3 (.pointer (some ⟨w.heap.size + 1, 0, none⟩)) := .inr ⟨_, rfl, hz3.cell (j := 0) rfl⟩
  have e0 := hr3.cell (j := 0) (u := .pointer none) rfl
  have e1 := hr3.cell (j := 1) (u := .pointer (some ⟨w.heap.size + 1, 0, none⟩)) rfl
  clear ha3 hz3 hr3
  generalize w.heap.size + 1 = bz at *
  have hsz := hB3.size
  go_loopw [22] (fun iv wr => ∃ k : Nat, k ≤ 2 ∧ iv = .int .i64 (k : Int) ∧ w3 = wr) (fun iv _ => 2 - (intOf iv).toNat)
  case atStart => exact ⟨0, by omega, rfl, rfl⟩
  case round =>
    obtain ⟨k, hk, rfl, rfl⟩ := hrel
    have hkk : k = 0 ∨ k = 1 ∨ k = 2 := by omega
    rcases hkk with rfl | rfl | rfl
    · have hno := hno1
      go_wp2_with fail
      refine (read_no _ _ hno i).mono ?_
      rintro e w' ⟨rfl, rfl⟩
      go_wp2_with fail
      refine (arm_no _ _ hno 1).mono ?_
      rintro e w' ⟨rfl, rfl⟩
      go_wp2_with fail
      refine (cut_no _ _ hno).mono ?_
      rintro e w' ⟨rfl, rfl⟩
      go_wp2_with fail
      refine (write_no _ _ hno i _).mono ?_
      rintro e w' ⟨rfl, rfl⟩
      go_wp2_with fail
      refine (flush_no _ _ hno).mono ?_
      rintro e w' ⟨rfl, rfl⟩
      go_wp2_with fail
      refine (start_no _ _ hno _).mono ?_
      rintro e w' ⟨rfl, rfl⟩
      go_wp2_with fail
      refine (on_no _ _ hno).mono ?_
      rintro e w' ⟨rfl, rfl⟩
      go_wp2_with fail
      refine (dirty_no _ _ hno).mono ?_
      rintro e w' ⟨rfl, rfl⟩
      go_wp2_with fail
      refine (sectors_no _ _ hno).mono ?_
      rintro e w' ⟨rfl, rfl⟩
      go_wp2
      go_roundw
      case rel => exact ⟨1, by omega, by go_num, trivial⟩
      case measure => simp [intOf]
    · have hno := hno2
      go_wp2_with fail
      refine (read_no _ _ hno i).mono ?_
      rintro e w' ⟨rfl, rfl⟩
      go_wp2_with fail
      refine (arm_no _ _ hno 1).mono ?_
      rintro e w' ⟨rfl, rfl⟩
      go_wp2_with fail
      refine (cut_no _ _ hno).mono ?_
      rintro e w' ⟨rfl, rfl⟩
      go_wp2_with fail
      refine (write_no _ _ hno i _).mono ?_
      rintro e w' ⟨rfl, rfl⟩
      go_wp2_with fail
      refine (flush_no _ _ hno).mono ?_
      rintro e w' ⟨rfl, rfl⟩
      go_wp2_with fail
      refine (start_no _ _ hno _).mono ?_
      rintro e w' ⟨rfl, rfl⟩
      go_wp2_with fail
      refine (on_no _ _ hno).mono ?_
      rintro e w' ⟨rfl, rfl⟩
      go_wp2_with fail
      refine (dirty_no _ _ hno).mono ?_
      rintro e w' ⟨rfl, rfl⟩
      go_wp2_with fail
      refine (sectors_no _ _ hno).mono ?_
      rintro e w' ⟨rfl, rfl⟩
      go_wp2
      go_roundw
      case rel => exact ⟨2, by omega, by go_num, trivial⟩
      case measure => simp [intOf]
    · clear c1 c2 c3 hno1 hno2 e0 e1 hk
      go_wp2_with fail
      refine (new_ 1 w3 (by decide) (by decide)).mono ?_
      rintro e w4 ⟨g, rfl, hg, h4, hb4⟩
      have hg0 : w.heap.size ≤ g := by omega
      have hB4 : Below w.heap.size w w4 := hB3.trans (hb4.mono hsz)
      have hl4 := h4.lt
      clear hb4 hB3
      go_wp2_with fail
      have hob : (w4.alloc (.cells #[.int .u8 97, .int .u8 98, .int .u8 99] 5 (3, 4))).heap[w4.heap.size]? = some (.cells #[.int .u8 97, .int .u8 98, .int .u8 99] 5 (3, 4)) := heap_alloc_new w4 _
      refine (write_ g (DS.fresh 1) 0 (some ⟨w4.heap.size, 0, none⟩) 3 3 abc _ (h4.alloc _) (Bs.new w4 abc 5 (3, 4)) (fun h => by cases h) (Nat.le_refl _) (fun a ha _ => by cases ha; right; simp; omega)).mono ?_
      rintro e w5 ⟨rfl, h5, ht5⟩
      have hB5 : Below w.heap.size w w5 := (hB4.alloc hB4.size _).trans (ht5.below (by omega) (by simp; omega))
      have hob5 := (ht5.block w4.heap.size (by simp) (by omega)).trans hob
      have o0 : w5.cell? ⟨w4.heap.size, 0, none⟩ = some (.int .u8 97) := by simp [World.cell?, hob5]
      have f0 : w5.frozen? ⟨w4.heap.size, 0, none⟩ = false := by simp [World.frozen?, hob5]
      have hl5 := h5.lt
      have hol : g + 2 < w4.heap.size := hl4
      change Dk w5 g nb1 at h5
      have hlt5 : w4.heap.size < w5.heap.size := (Array.getElem?_eq_some_iff.1 hob5).1
      clear h4 hB4 hl4 hob hob5 ht5
      generalize w4.heap.size = ob at *
      go_wp2_with fail
      have ht6 : Tn ob (ob + 1) w5 (w5.setCell ⟨ob, 0, none⟩ (.int .u8 120)) := Tn.set _ _ _ (Nat.le_refl _) (Nat.lt_succ_self _)
      have h6 := h5.tn ht6 (by omega)
      have hB6 : Below w.heap.size w (w5.setCell ⟨ob, 0, none⟩ (.int .u8 120)) := hB5.trans (ht6.below (by omega) (by omega))
      generalize (w5.setCell ⟨ob, 0, none⟩ (.int .u8 120)) = w6 at *
      clear h5 hB5 ht6 o0 f0 hl5 hlt5 hol
      refine (read_ g nb1 0 _ h6).mono ?_
      rw [nb_read]
      rintro e w7 ⟨v7, rfl, hgot7, _, hb7⟩
      obtain ⟨hf7, _⟩ | ⟨q7, rfl, _, hq7, hk7⟩ := hgot7
      · cases hf7
      have h7 := h6.below hb7
      have hl6 := h6.lt
      have hB7 : Below w.heap.size w w7 := hB6.trans (hb7.mono hB6.size)
      have x0 := hk7.cell (j := 1) (u := .int .u8 98) rfl
      have fx := hk7.free 1
      have hlq7 := hk7.lt
      clear hk7 hb7 hB6 h6
      go_wp2_with fail
      have ht8 : Tn q7 (q7 + 1) w7 (w7.setCell ⟨q7, 1, none⟩ (.int .u8 120)) := Tn.set _ _ _ (Nat.le_refl _) (Nat.lt_succ_self _)
      have h8 := h7.tn ht8 (by omega)
      have hB8 : Below w.heap.size w (w7.setCell ⟨q7, 1, none⟩ (.int .u8 120)) := hB7.trans (ht8.below (by omega) (by omega))
      generalize (w7.setCell ⟨q7, 1, none⟩ (.int .u8 120)) = w8 at *
      clear h7 hB7 ht8 x0 fx hlq7 hl6 hq7
      refine (read_ g nb1 0 _ h8).mono ?_
      rw [nb_read]
      rintro e w9 ⟨v9, rfl, hgot9, _, hb9⟩
      obtain ⟨hf9, _⟩ | ⟨qy, rfl, _, hqy, hky⟩ := hgot9
      · cases hf9
      have h9 := h8.below hb9
      have hl8 := h8.lt
      have hB9 : Below w.heap.size w w9 := hB8.trans (hb9.mono hB8.size)
      have hgy : g + 3 ≤ qy := by omega
      clear hb9 hB8 h8 hl8 hqy
      go_wp2_with fail
      refine (flush_ g nb1 _ h9).mono ?_
      rintro e w10 ⟨rfl, h10, ht10⟩
      change Dk w10 g nb2 at h10
      have hky10 := ht10.blk hky (by omega)
      have hl9 := h9.lt
      have hB10 : Below w.heap.size w w10 := hB9.trans (ht10.below (by omega) (by have := hB9.size; omega))
      clear ht10 hky h9 hB9 hl9
      go_wp2_with fail
      refine (read_ g nb2 0 _ h10).mono ?_
      rw [nb_read2]
      rintro e w11 ⟨v11, rfl, hgot11, _, hb11⟩
      obtain ⟨hf11, _⟩ | ⟨qz, rfl, _, hqz, hkz⟩ := hgot11
      · cases hf11
      have h11 := h10.below hb11
      have hky11 := hky10.keep hb11
      have hl10 := h10.lt
      have hly := hky10.lt
      have hB11 : Below w.heap.size w w11 := hB10.trans (hb11.mono hB10.size)
      have x0 := hkz.cell (j := 2) (u := .int .u8 99) rfl
      have fx := hkz.free 2
      have hlqz := hkz.lt
      clear hkz hb11 hB10 h10 hky10
      go_wp2_with fail
      have ht12 : Tn qz (qz + 1) w11 (w11.setCell ⟨qz, 2, none⟩ (.int .u8 120)) := Tn.set _ _ _ (Nat.le_refl _) (Nat.lt_succ_self _)
      have h12 := h11.tn ht12 (by omega)
      have hky12 := ht12.blk hky11 (by omega)
      have hB12 : Below w.heap.size w (w11.setCell ⟨qz, 2, none⟩ (.int .u8 120)) := hB11.trans (ht12.below (by omega) (by omega))
      generalize (w11.setCell ⟨qz, 2, none⟩ (.int .u8 120)) = w12 at *
      clear h11 hB11 ht12 x0 fx hlqz hl10 hqz hky11 hly
      refine (read_ g nb2 0 _ h12).mono ?_
      rw [nb_read2]
      rintro e w13 ⟨v13, rfl, hgot13, _, hb13⟩
      obtain ⟨hf13, _⟩ | ⟨qu, rfl, _, hqu, hku⟩ := hgot13
      · cases hf13
      have hky13 := hky12.keep hb13
      have hB13 : Below w.heap.size w w13 := hB12.trans (hb13.mono hB12.size)
      clear h12 hB12 hky12 hqu hb13
      go_wp2_with fail
      obtain ⟨hcy, hcu⟩ := two_str (q := qy) (r := qu) abc_len
      have kd2 : ∀ (C : Array Value) (n c : Nat), (convert 34 34 (.slice (some ⟨w13.heap.size, 0, none⟩) n c)).run Try.prog (w13.alloc (.cells C 5)).drew = .ok (.slice (some ⟨w13.heap.size, 0, none⟩) n c) ((w13.alloc (.cells C 5 (C.size, C.size + 1))).drew) := fun C n c => kc w13.drew C n c w13.heap.size rfl
      obtain ⟨PA, hPA⟩ : ∃ PA, pad abc = PA := ⟨_, rfl⟩
      rw [hPA] at hcy hcu hky13 hku
      have HP := Lib.hid hPA
      clear hPA
      refine wp_region_noPanic ?_
      refine wp_region_held_drew (S := fun w' => Two w' qy qu PA) (by kernel_rfl) ⟨hky13, hku⟩ (fun hHeld => ?_)
      refine wpAnyH_take (i := 0) (oi := _) (v := ?_) rfl (by kernel_rfl) (by kernel_rfl) (by kernel_rfl) (fun _ _ _ h => h) (Or.inl ⟨by rfl, ?_⟩) (by assumption) ?_
      rotate_left
      · (intro w hSw; (try dsimp only at hSw); go_simp; (first | done | rfl))
      try simp only [Act.put, List.setIfInBounds_toArray, List.set_cons_zero, List.set_cons_succ]
      refine wpAnyH_take (i := 1) (oi := _) (v := ?_) rfl (by kernel_rfl) (by kernel_rfl) (by kernel_rfl) (fun _ _ _ h => h) (Or.inl ⟨by rfl, ?_⟩) (by assumption) ?_
      rotate_left
      · (intro w hSw; (try dsimp only at hSw); go_simp; (first | done | rfl))
      try simp only [Act.put, List.setIfInBounds_toArray, List.set_cons_zero, List.set_cons_succ]
      refine wpAnyH_ready (rs := [2]) (by kernel_rfl) (by simp) (AllReadyH.cons (o := _) rfl (fun K hK => ?_) AllReadyH.nil)
      go_simp
      refine hK.out _ _ ⟨Blk.alloc (w := w13.drew) hky13 _, Blk.alloc (w := w13.drew) hku _⟩ (fun hHeld => ?_)
      clear hK K
      try simp only [Act.put, List.setIfInBounds_toArray, List.set_cons_zero, List.set_cons_succ]
      refine wpAnyH_ready (rs := [3]) (by kernel_rfl) (by simp) (AllReadyH.cons (o := _) rfl (fun K hK => ?_) AllReadyH.nil)
      go_simp
      refine hK.out _ _ ⟨Blk.alloc (w := w13.drew) hky13 _, Blk.alloc (w := w13.drew) hku _⟩ (fun hHeld => ?_)
      clear hK K
      try simp only [Act.put, List.setIfInBounds_toArray, List.set_cons_zero, List.set_cons_succ]
      refine wpAnyH_ready (rs := [4]) (by kernel_rfl) (by simp) (AllReadyH.cons (o := _) rfl (fun K hK => ?_) AllReadyH.nil)
      go_simp
      go_at_call 29
      refine (full_ _ 3 3 abc _ (Bs.new w13.drew abc 5 (3, 4)) (fun h => by cases h) (by decide)).mono ?_
      rw [HP.out]
      rintro e w14 ⟨rfl, hb14⟩
      go_wp2_with fail
      refine hK.out _ _ ⟨(Blk.alloc (w := w13.drew) hky13 _).keep hb14, (Blk.alloc (w := w13.drew) hku _).keep hb14⟩ (fun hHeld => ?_)
      clear hK K
      try simp only [Act.put, List.setIfInBounds_toArray, List.set_cons_zero, List.set_cons_succ]
      refine wpAnyH_take (i := 5) (oi := _) (v := ?_) rfl (by kernel_rfl) (by kernel_rfl) (by kernel_rfl) (fun _ _ _ h => h) (Or.inl ⟨by rfl, ?_⟩) (by assumption) ?_
      rotate_left
      · (intro w hSw; (try dsimp only at hSw); go_simp; (first | done | rfl))
      try simp only [Act.put, List.setIfInBounds_toArray, List.set_cons_zero, List.set_cons_succ]
      refine wpAnyH_take (i := 6) (oi := _) (v := ?_) rfl (by kernel_rfl) (by kernel_rfl) (by kernel_rfl) (fun _ _ _ h => h) (Or.inl ⟨by rfl, ?_⟩) (by assumption) ?_
      rotate_left
      · (intro w hSw; (try dsimp only at hSw); go_simp; (first | done | rfl))
      try simp only [Act.put, List.setIfInBounds_toArray, List.set_cons_zero, List.set_cons_succ]
      refine wpAnyH_take (i := 7) (oi := _) (v := ?_) rfl (by kernel_rfl) (by kernel_rfl) (by kernel_rfl) (fun _ _ _ h => h) (Or.inl ⟨by rfl, ?_⟩) (by assumption) ?_
      rotate_left
      · (intro w hSw; (try dsimp only at hSw); go_simp; (first | done | rfl))
      try simp only [Act.put, List.setIfInBounds_toArray, List.set_cons_zero, List.set_cons_succ]
      refine wpAnyH_take (i := 8) (oi := _) (v := ?_) rfl (by kernel_rfl) (by kernel_rfl) (by kernel_rfl) (fun _ _ _ h => h) (Or.inl ⟨by rfl, ?_⟩) (by assumption) ?_
      rotate_left
      · (intro w hSw; (try dsimp only at hSw); go_simp; (first | done | rfl))
      try simp only [Act.put, List.setIfInBounds_toArray, List.set_cons_zero, List.set_cons_succ]
      refine wpAnyH_take (i := 9) (oi := _) (v := ?_) rfl (by kernel_rfl) (by kernel_rfl) (by kernel_rfl) (fun _ _ _ h => h) (Or.inl ⟨by rfl, ?_⟩) (by assumption) ?_
      rotate_left
      · (intro w hSw; (try dsimp only at hSw); go_simp; (first | done | rfl))
      try simp only [Act.put, List.setIfInBounds_toArray, List.set_cons_zero, List.set_cons_succ]
      refine wpAnyH_take (i := 10) (oi := _) (v := ?_) rfl (by kernel_rfl) (by kernel_rfl) (by kernel_rfl) (fun _ _ _ h => h) (Or.inl ⟨by rfl, ?_⟩) (by assumption) ?_
      rotate_left
      · (intro w hSw; (try dsimp only at hSw); go_simp; (first | done | rfl))
      try simp only [Act.put, List.setIfInBounds_toArray, List.set_cons_zero, List.set_cons_succ]
      refine wpAnyH_take (i := 11) (oi := _) (v := ?_) rfl (by kernel_rfl) (by kernel_rfl) (by kernel_rfl) (fun _ _ _ h => h) (Or.inl ⟨by rfl, ?_⟩) (by assumption) ?_
      rotate_left
      · (intro w hSw; (try dsimp only at hSw); go_simp; (first | done | rfl))
      try simp only [Act.put, List.setIfInBounds_toArray, List.set_cons_zero, List.set_cons_succ]
      refine wpAnyH_take (i := 12) (oi := _) (v := ?_) rfl (by kernel_rfl) (by kernel_rfl) (by kernel_rfl) (fun _ _ _ h => h) (Or.inl ⟨by rfl, ?_⟩) (by assumption) ?_
      rotate_left
      · (intro w hSw; (try dsimp only at hSw); go_simp; (first | done | rfl))
      try simp only [Act.put, List.setIfInBounds_toArray, List.set_cons_zero, List.set_cons_succ]
      refine wpAnyH_take (i := 13) (oi := _) (v := ?_) rfl (by kernel_rfl) (by kernel_rfl) (by kernel_rfl) (fun _ _ _ h => h) (Or.inl ⟨by rfl, ?_⟩) (by assumption) ?_
      rotate_left
      · (intro w hSw; (try dsimp only at hSw); go_simp; (first | done | rfl))
      try simp only [Act.put, List.setIfInBounds_toArray, List.set_cons_zero, List.set_cons_succ]
      refine wpAnyH_ready (rs := [14]) (by kernel_rfl) (by simp) (AllReadyH.cons (o := _) rfl (fun K hK => ?_) AllReadyH.nil)
      go_simp
      go_at_call 11
      refine (alive_ _).mono ?_
      rintro e w15 ⟨rfl, hb15⟩
      go_wp2_with fail
      refine hK.out _ _ ⟨((Blk.alloc (w := w13.drew) hky13 _).keep hb14).keep hb15, ((Blk.alloc (w := w13.drew) hku _).keep hb14).keep hb15⟩ (fun hHeld => ?_)
      clear hK K
      try simp only [Act.put, List.setIfInBounds_toArray, List.set_cons_zero, List.set_cons_succ]
      refine wpAnyH_take (i := 15) (oi := _) (v := ?_) rfl (by kernel_rfl) (by kernel_rfl) (by kernel_rfl) (fun _ _ _ h => h) (Or.inl ⟨by rfl, ?_⟩) (by assumption) ?_
      rotate_left
      · (intro w hSw; (try dsimp only at hSw); go_simp; (first | done | rfl))
      try simp only [Act.put, List.setIfInBounds_toArray, List.set_cons_zero, List.set_cons_succ]
      refine wpAnyH_ready (rs := [16]) (by kernel_rfl) (by simp) (AllReadyH.cons (o := _) rfl (fun K hK => ?_) AllReadyH.nil)
      go_simp
      refine hK.out _ _ ⟨((Blk.alloc (w := w13.drew) hky13 _).keep hb14).keep hb15, ((Blk.alloc (w := w13.drew) hku _).keep hb14).keep hb15⟩ (fun hHeld => ?_)
      clear hK K
      try simp only [Act.put, List.setIfInBounds_toArray, List.set_cons_zero, List.set_cons_succ]
      refine wpAnyH_done (by kernel_rfl) ?_ _
      refine NoPanic.normal ?_
      have hB14 : Below w.heap.size w w14 := Below.trans (hB13.alloc hB13.size (.cells #[.int .u8 97, .int .u8 98, .int .u8 99] 5 (3, 4))) (Below.mono (⟨hb14.os, hb14.tape, hb14.output, hb14.size, hb14.block⟩ : Below (w13.alloc (.cells #[.int .u8 97, .int .u8 98, .int .u8 99] 5 (3, 4))).heap.size (w13.alloc (.cells #[.int .u8 97, .int .u8 98, .int .u8 99] 5 (3, 4))) w14) (by have := hB13.size; simp; omega))
      go_wp2
      go_ret
      exact ⟨rfl, hB14.trans (hb15.mono hB14.size)⟩

theorem diskNobody_lifted (os : Os) (started : os.Started) (H : Type) (enc : TypeId × Value → H) :
    ReturnsInHanded {} Try.checked os 7 .any (Rows.diskNobodySpec.pre6 enc Try.prog Try.f7 Rows.diskNobodyRow.domain false) (Rows.diskNobodySpec.post enc Try.prog Try.f7 false true false false) := by
  refine law_lifted (C := Try.checked) (tb := 4) own_ started (by kernel_rfl) Try.func7
    (ChangeSpec.witness6 (enc := enc) (C := Try.checked) false ⟨#[], #[.agg #[.int .u8 0, .int .i64 0, .slice none 0 0, .slice none 0 0]], []⟩ 8 (by kernel_rfl) (by kernel_rfl) (by kernel_rfl) (by kernel_rfl))
    rfl rfl Try.underlying4 laidOut_ (by kernel_rfl) (fun ds h => by match ds, h with | [_], _ => rfl) ?_
  intro W base args ds p hval0 hA0 _ hsz0
  have hval : ∀ (j : Nat) t v, Try.f7.params[j]? = some t → args[j]? = some v → Value.okWide Try.prog W .any base t v := hval0
  have hA : DataW.TrodAll enc Try.prog W 0 (fun _ => true) true Try.f7.params.toList args.toList ds p := hA0
  have hsz : (DataW.weightsEach Try.prog Try.f7.params.toList ds).all (· ≤ reachBytes) = true := hsz0
  clear hval0 hA0 hsz0
  rw [Try.params7] at hA hval hsz
  obtain ⟨v0, d0, rfl, rfl, h0⟩ := trodAll_one hA
  obtain ⟨cs0, a0, rfl, r0, b0⟩ := arg_struct ops_act Try.underlying36 (hval 0 _ v0 rfl rfl) h0 (weight_at hsz (j := 0) rfl rfl)
  obtain ⟨A, n, c, B, m, d, rfl, q1, q2, q3, q4, q5, q6, q7, q8, q9, q10⟩ := act_arr r0
  exact diskNobody_walk _ _ A B n c m d _ a0.2.2.2.1 W ⟨q9, q10⟩ q1 q2 q3

/-- DiskNobody, for every input: the statement as it was given. -/
theorem diskNobody_holds : Rows.DiskNobodySaid :=
  OpenClaim.holds_of_wide 7 Try.f7 rfl rfl rfl rfl rfl rfl rfl ⟨rfl, rfl, rfl, rfl, rfl⟩ rfl rfl rfl rfl rfl (by kernel_rfl) Try.func7 (by kernel_rfl)
    (of_decide_eq_true (by kernel_rfl)) (by unfold Func.isWrapper; first | (rw [if_pos (by decide +kernel)]; kernel_rfl) | (rw [if_neg (by decide +kernel)]; exact ⟨rfl, rfl⟩))
    (fun os started H enc _ => diskNobody_lifted os started H enc)
end Go.Proofs.Ytbppkdfmiegipaa
