/- Layer 13: slices.Repeat of one number. -/
import Derived.Test.YtncapionioeieaaSmaL
import Derived.Test.YtncapionioeieaaNum
import Derived.Laws.Bits64b
import Derived.Laws.CopyOwn
import Derived.Deep.RegionLaw
set_option linter.all false
namespace Go.Proofs.Ytncapionioeieaa
open Go.RowKit
namespace Sma

/-- A row of c numbers whose first k are x. -/
def rowK (c k : Nat) (x : Int) : List Value := List.replicate k (.int .i64 x) ++ List.replicate (c - k) (.int .i64 0)
theorem rowK_len {c k : Nat} {x : Int} (h : k ≤ c) : (rowK c k x).length = c := by simp [rowK]; omega
theorem rowK_made (c : Nat) (x : Int) : madeCells #[Value.int .i64 0] (c * 1) = (rowK c 0 x).toArray := by
  rw [Nat.mul_one]
  unfold madeCells rowK
  apply Array.ext
  · simp
  · intro i h1 h2
    simp [Nat.mod_one]
theorem rowK_splice {c k q : Nat} {x : Int} (h : k + q ≤ c) : splice (rowK c k x) k (List.replicate q (.int .i64 x)) = rowK c (k + q) x := by
  unfold splice rowK
  rw [List.take_append_of_le_length (by simp), List.take_of_length_le (by simp), List.length_replicate, List.drop_append, List.length_replicate, List.drop_of_length_le (by simp), List.nil_append, List.drop_replicate, ← List.append_assoc, List.replicate_append_replicate]
  congr 2
  omega
theorem rowK_one {c : Nat} {x : Int} (h : 1 ≤ c) : splice (rowK c 0 x) 0 [.int .i64 x] = rowK c 1 x := by
  have := rowK_splice (c := c) (k := 0) (q := 1) (x := x) (by omega)
  simpa using this
theorem rowK_all (c : Nat) (x : Int) : rowK c c x = List.replicate c (.int .i64 x) := by simp [rowK]
section
variable (w : World)
set_option maxRecDepth 100000 in
set_option maxHeartbeats 1000000 in
theorem mul64_ (c : Nat) (h : c ≤ 1024) : Calls Try.prog 50 #[.int .u64 1, .int .u64 (c : Int)] w fun e w' => e = .returned (.tuple #[.int .u64 0, .int .u64 (c : Int)]) ∧ w = w' := by
  have a1 : bits .and .u64 1 4294967295 = 1 := bits_and_u64_nat 1 4294967295 (by omega) (by omega)
  have a0 : bits .and .u64 0 4294967295 = 0 := bits_and_u64_nat 0 4294967295 (by omega) (by omega)
  have ac : bits .and .u64 (c : Int) 4294967295 = (c : Int) := by
    have h1 := bits_and_u64_nat c 4294967295 (by omega) (by omega)
    have e : c &&& 4294967295 = c % 4294967296 := Nat.and_two_pow_sub_one_eq_mod c 32
    rw [e, Nat.mod_eq_of_lt (by omega)] at h1
    exact h1
  have wc : IntKind.u64.wrap (c : Int) = (c : Int) := by rw [IntKind.wrap_u64]; omega
  have w0 : IntKind.u64.wrap 0 = 0 := by rw [IntKind.wrap_u64]; omega
  have cd : (c : Int) / 4294967296 = 0 := by omega
  go_enter Try.func50, Try.ntmps50
  go_wp2
  go_ret2
  exact ⟨rfl, rfl⟩
set_option maxRecDepth 100000 in
set_option maxHeartbeats 1000000 in
theorem mul_ (c : Nat) (h : c ≤ 1024) : Calls Try.prog 48 #[.int .u64 1, .int .u64 (c : Int)] w fun e w' => e = .returned (.tuple #[.int .u64 0, .int .u64 (c : Int)]) ∧ w = w' := by
  go_enter Try.func48, Try.ntmps48
  go_wp2_with fail
  refine (mul64_ _ c h).mono ?_
  rintro e w' ⟨rfl, rfl⟩
  go_wp2
  go_ret2
  exact ⟨rfl, rfl⟩
theorem info_int : (Try.prog.info? 3).map (fun i => (i.zero, i.size, i.bytes)) = some (some (.int .i64 0), 1, 8) := by kernel_rfl
theorem int_info : ∃ i, Try.prog.info? 3 = some i ∧ i.zero = some (.int .i64 0) ∧ i.size = 1 ∧ i.bytes = 8 := by
  obtain ⟨i, hi, he⟩ := Option.map_eq_some_iff.1 info_int
  simp only [Prod.mk.injEq] at he
  exact ⟨i, hi, he.1, he.2.1, he.2.2⟩
set_option maxRecDepth 100000 in
set_option maxHeartbeats 2000000 in
/-- A number, so many times. -/
theorem repeat_ (b : Nat) (x : Int) (cx : Nat) (hx : w.cell? ⟨b, 0, none⟩ = some (.int .i64 x)) (c : Nat) (h0 : 0 < c) (h : c ≤ 1024) :
    Calls Try.prog 46 #[.slice (some ⟨b, 0, none⟩) 1 cx, .int .i64 (c : Int)] w fun e w' => ∃ g, e = .returned (.slice (some ⟨g, 0, none⟩) c c) ∧ w.heap.size ≤ g ∧ Rd w' (some ⟨g, 0, none⟩) 1 c (List.replicate c (.int .i64 x)) ∧ Below w.heap.size w w' := by
  obtain ⟨i0, hi0, hz0, hz1, hz2⟩ := int_info
  have Hz := Lib.hid hz2
  clear hz2
  have hc0 : ¬ (c : Int) < 0 := by omega
  have wc : IntKind.u64.wrap (c : Int) = (c : Int) := by rw [IntKind.wrap_u64]; omega
  have wi : IntKind.i64.wrap (c : Int) = (c : Int) := by rw [IntKind.wrap_i64]; omega
  have hcm : ¬ (9223372036854775807 : Int) < (c : Int) := by omega
  have hszi : (Try.prog.info? 3).map (·.size) = some 1 := by rw [hi0]; simp [hz1]
  have Hn1 := Lib.hid (show [Value.int .i64 x].length = Nat.min 1 c by simp [Nat.min_def]; omega)
  have hfit1 : 0 + [Value.int .i64 x].length ≤ (rowK c 0 x).length := by rw [rowK_len (Nat.zero_le _)]; simp; omega
  have h1c : ∀ v ∈ [Value.int .i64 x], v.oneCell' = true := by intro v hv; rw [List.mem_singleton.1 hv]; rfl
  go_enter Try.func46, Try.ntmps46
  go_wp2_with fail
  refine (mul_ _ c h).mono ?_
  rintro e w' ⟨rfl, rfl⟩
  go_wp2_with (first
    | (at_make
       refine wpList_make_blk _ rfl _ _ 22 rfl 3 i0 _ 1 8 Try.underlying22 hi0 hz0 hz1 Hz.out .i64 .i64 _ _ c rfl rfl rfl rfl (by omega) (by omega) ?_
       intro w1 hk1 hb1 hs1
       replace hk1 : Blk w1 w.heap.size 3 (rowK c 0 x).toArray := by rw [← rowK_made]; exact hk1
       have hx1 := (hb1.cell (cell_lt hx)).trans hx
       have Hsrc := Lib.hid (show ∀ j v, [Value.int .i64 x][j]? = some v → w1.cell? ((⟨b, 0, none⟩ : Addr).add j) = some v from fun j v hj => by
         cases j with
         | zero =>
           simp only [List.getElem?_cons_zero, Option.some.injEq] at hj
           subst hj
           rw [add_plain]
           exact hx1
         | succ j => simp at hj))
    | (refine wpList_copy_splice rfl (.tmp 31) (.tmp 32) 22 22 rfl 3 Try.underlying22 hszi (some ⟨w.heap.size, 0, none⟩) (some ⟨b, 0, none⟩) c c 1 cx rfl rfl w.heap.size 0 (rowK c 0 x) 3 hk1 [.int .i64 x] Hn1.out (fun _ => ⟨rfl, ⟨b, 0, none⟩, rfl, Hsrc.out⟩) hfit1 h1c w.heap.size w hb1 (Nat.le_refl _) ?_
       intro w2 hk2 hb2)
    | fail)
  have hrow : Blk w2 w.heap.size 3 (rowK c 1 x).toArray := by
    have := hk2.out
    rw [rowK_one (by omega)] at this
    exact this
  have hgl : w.heap.size < w2.heap.size := hrow.lt
  clear hk2 Hsrc hx1 hk1 hb1 hs1 Hn1 hfit1 h1c hx
  generalize hg : w.heap.size = g at *
  go_loopw [8] (fun kv wr => ∃ k : Nat, 1 ≤ k ∧ k ≤ c ∧ kv = .int .i64 (k : Int) ∧ Blk wr g 3 (rowK c k x).toArray ∧ Below g w wr) (fun kv _ => c - (intOf kv).toNat)
  case atStart => exact ⟨1, Nat.le_refl _, by omega, rfl, hrow, hb2⟩
  case round =>
    obtain ⟨k, hk1, hkc, rfl, hb, hB⟩ := hrel
    clear hrow hb2
    by_cases hlt : k < c
    · have hkl : (k : Int) < (c : Int) := by omega
      have hk0 : (0 : Int) ≤ (k : Int) := by omega
      have hkle : (k : Int) ≤ (c : Int) := by omega
      have hck : ¬ c = k := by omega
      obtain ⟨q, hq⟩ : ∃ q, q = Nat.min k (c - k) := ⟨_, rfl⟩
      have hq2 : 1 ≤ q ∧ k + q ≤ c ∧ q ≤ k := by rw [hq]; simp only [Nat.min_def]; split <;> omega
      have Hq := Lib.hid hq
      have HQ := Lib.hid hq2
      clear hq
      have hwq : IntKind.i64.wrap ((k : Int) + (q : Int)) = ((k + q : Nat) : Int) := by rw [IntKind.wrap_i64]; omega
      have Hn := Lib.hid (show (List.replicate q (Value.int .i64 x)).length = Nat.min k (c - k) by rw [List.length_replicate]; exact Hq.out)
      have Hlen := Lib.hid (show (List.replicate q (Value.int .i64 x)).length = q by rw [List.length_replicate])
      have Hsrc := Lib.hid (show ∀ j v, (List.replicate q (Value.int .i64 x))[j]? = some v → wr.drew.cell? ((⟨g, 0, none⟩ : Addr).add j) = some v from fun j v hj => by
        have hjq : j < q := by have := (List.getElem?_eq_some_iff.1 hj).1; simpa using this
        have hv : v = .int .i64 x := List.eq_of_mem_replicate (List.mem_of_getElem? hj)
        subst hv
        rw [add_plain, Nat.zero_add]
        refine hb.cell ?_
        unfold rowK
        rw [List.getElem?_toArray, List.getElem?_append_left (by rw [List.length_replicate]; omega), List.getElem?_replicate, if_pos (by omega)])
      have hfit : k + (List.replicate q (Value.int .i64 x)).length ≤ (rowK c k x).length := by rw [rowK_len hkc, List.length_replicate]; omega
      have Hfit := Lib.hid hfit
      have h1c : ∀ v ∈ List.replicate q (Value.int .i64 x), v.oneCell' = true := by intro v hv; rw [List.eq_of_mem_replicate hv]; rfl
      have H1c := Lib.hid h1c
      have hBd : Below g w wr.drew := below_drewN hB 1
      have hbd : wr.drew.heap[g]? = some (.cells (rowK c k x).toArray 3 (0, 0)) := hb
      clear hfit h1c hq2
      go_wp2_with fail
      go_region_law (
        first
          | (refine step_copy_splice (w := wr.drew) rfl (.tmp 41) (.tmp 44) 22 22 rfl 3 Try.underlying22 hszi (some ⟨g, k, none⟩) (some ⟨g, 0, none⟩) (c - k) (c - k) k c (by go_simp) (by go_simp) g k (rowK c k x) 3 hbd (List.replicate q (.int .i64 x)) Hn.out (fun _ => ⟨rfl, ⟨g, 0, none⟩, rfl, Hsrc.out⟩) Hfit.out H1c.out g w hBd (Nat.le_refl _) ?_
             intro w3 hk3 hb3
             skip))
      all_goals
        have hk4 : Blk w3 g 3 (rowK c (k + q) x).toArray := by
          have h4 := hk3.out
          rw [rowK_splice HQ.out.2.1] at h4
          exact h4
        have hq2 := HQ.out
        clear hk3 hb hbd Hsrc Hn Hfit H1c hBd
        simp only [Act.put, List.getElem_toArray, List.getElem_cons_zero, List.getElem_cons_succ, List.setIfInBounds_toArray, List.set_cons_zero, List.set_cons_succ]
        go_wp2
        try simp only [Act.put, List.getElem_toArray, List.getElem_cons_zero, List.getElem_cons_succ, List.setIfInBounds_toArray, List.set_cons_zero, List.set_cons_succ]
        go_roundw
        case rel => exact ⟨k + q, by omega, by omega, by go_num, hk4, hb3⟩
        case measure => simp [intOf]; omega
    · have hkk : k = c := by omega
      subst hkk
      have hlt' : ¬ (k : Int) < (k : Int) := by omega
      have hrd : Rd wr (some ⟨g, 0, none⟩) 1 k (List.replicate k (.int .i64 x)) := by
        rw [rowK_all] at hb
        exact ⟨by simp, fun j u hu => ⟨g, 0, rfl, by rw [Nat.zero_add]; exact hb.cell (by rw [List.getElem?_toArray]; exact hu)⟩⟩
      go_wp2
      go_ret
      exact ⟨g, rfl, Nat.le_refl _, hrd, hB⟩
end
end Sma
end Go.Proofs.Ytncapionioeieaa
