/- Layer 11: Read of a berth; New. -/
import Derived.Test.YtganoklclnbjkaaLanB
set_option linter.all false
namespace Go.Proofs.Ytganoklclnbjkaa
open Go.RowKit
namespace Lan
open Str (Rec mayB opOf)
open Blo (I64 apL apE GotN AnsN)
theorem Ns.cut {w : World} {g o n : Nat} {l : List Nat} (h : Ns w (some ⟨g, o, none⟩) n l) {k q : Nat} (hq : k + q ≤ n) : Ns w (some ⟨g, o + k, none⟩) q ((l.drop k).take q) := by
  have hl := h.len
  refine ⟨⟨by simp [nvs]; omega, fun j u hu => ?_⟩, fun z hz => h.2 z (List.mem_of_mem_drop (List.mem_of_mem_take hz))⟩
  have hj : j < q := by have := (List.getElem?_eq_some_iff.1 hu).1; simp [nvs] at this; omega
  have hu' : (nvs l)[k + j]? = some u := by
    simp only [nvs, List.getElem?_map] at hu ⊢
    rw [List.getElem?_take, if_pos hj, List.getElem?_drop] at hu
    exact hu
  obtain ⟨b, o', e, hc⟩ := h.1.2 _ u hu'
  injection e with e
  injection e with e1 e2
  subst e1 e2
  exact ⟨g, o + k, rfl, by rw [Nat.add_assoc]; exact hc⟩
section
variable (w : World)
set_option maxRecDepth 100000 in
set_option maxHeartbeats 1000000 in
/-- Some blocks of a volume, read. -/
theorem readp_ (A : Option Addr) (n c : Nat) (v : List Nat) (h : Ns w A n v) (hnc : n ≤ c) (hc : c ≤ 9223372036854775807) (hn : n ≤ 1024) (k q : Nat) (hkq : k + q ≤ n) (hq : 0 < q) :
    Calls Try.prog 30 #[.slice A n c, .int .i64 (k : Int), .int .i64 (q : Int)] w fun e w' => AnsN w w' e 0 ((v.drop k).take q) := by
  obtain ⟨g, o, _, rfl, _, _⟩ := Blo.ns_get h (i := 0) (by omega)
  have hm : manyB (n : Int) = true := by simp [manyB]; omega
  have hwi : Blo.withinB (n : Int) (k : Int) (q : Int) = true := by simp [Blo.withinB]; omega
  have hcut := Ns.cut h hkq
  have Hlow := Lib.hid hcut.2
  clear h
  have t1 : (k : Int) ≤ (n : Int) := by omega
  have t2 : ¬ c = k := by omega
  have t3 : (0 : Int) ≤ (k : Int) := by omega
  have t4 : IntKind.i64.wrap ((k : Int) + (q : Int)) = ((k + q : Nat) : Int) := by rw [IntKind.wrap_i64]; omega
  have t5 : ((k + q : Nat) : Int) ≤ (c : Int) := by omega
  have t6 : (k : Int) ≤ ((k + q : Nat) : Int) := by omega
  have t7 : k ≤ c := by omega
  have t8 : k + q - k = q := by omega
  have hq8 : q * 8 ≤ 140737488355328 := by omega
  have hqc : q ≤ c - k := by omega
  have hck : c - k ≤ 9223372036854775807 := by omega
  go_enter Try.func30, Try.ntmps30
  go_wp2_with fail
  refine (Blo.volume_ _ n (by unfold I64; omega)).mono ?_
  rw [hm]
  rintro e w2 ⟨rfl, rfl⟩
  go_wp2_with fail
  refine (Blo.within_ _ n k q (by omega) (by unfold I64; omega) (by unfold I64; omega)).mono ?_
  rw [hwi]
  rintro e w2 ⟨rfl, rfl⟩
  go_wp2_with fail
  refine (Blo.clone_ _ (some ⟨g, o + k, none⟩) q (c - k) _ hcut (fun e => by cases e) hqc hck hq8).mono ?_
  rintro e w3 ⟨V, rfl, hO, hb3⟩
  obtain ⟨A', c', rfl, -, -, -⟩ := own_form hO
  go_wp2
  go_ret2
  exact ⟨A', q, c', rfl, ⟨hO, Hlow.out⟩, hb3⟩
variable (b : Nat) (U : Nat → Prop) (s : BS)
set_option maxRecDepth 100000 in
/-- All that is there, read. -/
theorem bread_ (h : Be w b U s) : Calls Try.prog 15 #[.pointer (some ⟨b, 0, none⟩), .int .i64 0, .int .i64 (s.n : Int)] w fun e w' => AnsN w w' e 0 s.vol := by
  have h0 := h
  obtain ⟨A0, n0, c0, A1, n1, c1, A2, n2, c2, h⟩ := h
  have d4 := h.blk.cell (j := 4) (u := .slice A0 n0 c0) rfl
  have hv := h.v0
  have hn : n0 = s.n := hv.ns.len.trans h.ok.len
  have hm : manyB (s.n : Int) = true := by have := h.ok.most; simp [manyB]; omega
  subst hn
  clear h
  go_enter Try.func15, Try.ntmps15
  go_wp2_with fail
  refine (given_ w b U s h0).mono ?_
  rintro e w' ⟨rfl, rfl⟩
  go_wp2_with fail
  refine (Blo.read_ w A0 s.n c0 s.vol hv.ns hv.nil hv.le hv.cap).mono ?_
  rw [hm]
  rintro e w3 ⟨A, m, c, rfl, hG, hb⟩
  go_wp2
  go_ret2
  exact ⟨A, m, c, rfl, hG, hb⟩
set_option maxRecDepth 100000 in
/-- Some of what is there, read. -/
theorem breadp_ (k q : Nat) (h : Be w b U s) (hkq : k + q ≤ s.n) (hq : 0 < q) : Calls Try.prog 15 #[.pointer (some ⟨b, 0, none⟩), .int .i64 (k : Int), .int .i64 (q : Int)] w fun e w' => AnsN w w' e 0 ((s.vol.drop k).take q) := by
  have h0 := h
  obtain ⟨A0, n0, c0, A1, n1, c1, A2, n2, c2, h⟩ := h
  have d4 := h.blk.cell (j := 4) (u := .slice A0 n0 c0) rfl
  have hv := h.v0
  have hn : n0 = s.n := hv.ns.len.trans h.ok.len
  have hm := h.ok.most
  subst hn
  clear h
  go_enter Try.func15, Try.ntmps15
  go_wp2_with fail
  refine (given_ w b U s h0).mono ?_
  rintro e w' ⟨rfl, rfl⟩
  go_wp2_with fail
  refine (readp_ w A0 s.n c0 s.vol hv.ns hv.le hv.cap hm k q hkq hq).mono ?_
  rintro e w3 ⟨A, m, c, rfl, hG, hb⟩
  go_wp2
  go_ret2
  exact ⟨A, m, c, rfl, hG, hb⟩
set_option maxRecDepth 100000 in
theorem new_bad (x y z : Int) (hz : I64 z) (h : ¬ (0 ≤ x ∧ 0 ≤ y ∧ 0 ≤ z ∧ z ≤ 1024)) : Calls Try.prog 9 #[.int .i64 x, .int .i64 y, .int .i64 z] w fun e w' => e = .returned (.tuple #[.pointer none, .int .i64 1]) ∧ w = w' := by
  by_cases h1 : x < 0
  · go_enter Try.func9, Try.ntmps9
    go_wp2
    go_ret2
    exact ⟨rfl, rfl⟩
  · by_cases h2 : y < 0
    · clear h
      go_enter Try.func9, Try.ntmps9
      go_wp2
      go_ret2
      exact ⟨rfl, rfl⟩
    · by_cases h3 : z < 0
      · clear h
        go_enter Try.func9, Try.ntmps9
        go_wp2
        go_ret2
        exact ⟨rfl, rfl⟩
      · have h4 : 1024 < z := by omega
        clear h
        go_enter Try.func9, Try.ntmps9
        go_wp2
        go_ret2
        exact ⟨rfl, rfl⟩
set_option maxRecDepth 100000 in
set_option maxHeartbeats 1000000 in
theorem new_u (x y : Int) (n : Nat) (hx : 0 ≤ x) (hx2 : I64 x) (hy : 0 ≤ y) (hy2 : I64 y) (hn : n ≤ 1024) : Calls Try.prog 9 #[.int .i64 x, .int .i64 y, .int .i64 (n : Int)] w fun e w' => ∃ b, e = .returned (.tuple #[.pointer (some ⟨b, 0, none⟩), .int .i64 0]) ∧ Be w' b (fun k => w.heap.size ≤ k) (newS x y n) ∧ w.heap.size ≤ b ∧ Below w.heap.size w w' := by
  obtain ⟨i0, hi0, hz0, hz1, hz2⟩ := u64_info
  have Hz := Lib.hid hz2
  clear hz2
  have Hx := Lib.hid hx2
  have Hy := Lib.hid hy2
  clear hx2 hy2
  go_enter Try.func9, Try.ntmps9
  go_wp2_with (first
    | (at_make
       refine wpList_make_blk _ rfl _ _ 27 rfl 62 i0 _ 1 8 Try.underlying27 hi0 hz0 hz1 Hz.out .i64 .i64 _ _ n rfl rfl rfl rfl (by omega) (by omega) ?_
       intro w1 hk1 hb1 hs1)
    | fail)
  obtain ⟨w2, hw2⟩ : ∃ w2, w1.alloc (.cells #[.int .i64 0, .slice (some ⟨w.heap.size, 0, none⟩) n n] 55) = w2 := ⟨_, rfl⟩
  have hb2 : Below w.heap.size w w2 := by rw [← hw2]; exact hb1.alloc hb1.size _
  have hs2 : w2.heap.size = w.heap.size + 2 := by rw [← hw2]; simp [hs1]
  have hk2 : Blk w2 w.heap.size 62 (madeCells (Value.int IntKind.u64 0).cells (n * 1)) := by rw [← hw2]; exact hk1.alloc _
  rw [hw2]
  have hB := hb2.alloc hb2.size (.cells (bea (newS x y n) (.slice (some ⟨w.heap.size, 0, none⟩) n n) (.slice none 0 0) (.slice none 0 0)) 59)
  have hN := Blk.new w2 59 (bea (newS x y n) (.slice (some ⟨w.heap.size, 0, none⟩) n n) (.slice none 0 0) (.slice none 0 0)) (g := w.heap.size + 1 + 1) (by rw [hs2])
  have hk3 := hk2.alloc (.cells (bea (newS x y n) (.slice (some ⟨w.heap.size, 0, none⟩) n n) (.slice none 0 0) (.slice none 0 0)) 59)
  have hV : Vol (w2.alloc (.cells (bea (newS x y n) (.slice (some ⟨w.heap.size, 0, none⟩) n n) (.slice none 0 0) (.slice none 0 0)) 59)) (w.heap.size + 1 + 1) (fun k => w.heap.size ≤ k) (some ⟨w.heap.size, 0, none⟩) n n (List.replicate n 0) := by
    have hO := Blo.own_blk hk3 (Nat.le_refl _) (n := n) (xs := nvs (List.replicate n 0)) (by unfold maxLen; omega) (by rw [Nat.mul_one, Blo.nvs_repl]; exact Blo.made_list n _) (by rw [nvs_length]; simp)
    refine ⟨no_ns hO (fun z hz => by rw [List.eq_of_mem_replicate hz]; omega), fun e => (by cases e), Nat.le_refl _, by omega, fun a ha => ?_⟩
    injection ha with ha
    subst ha
    exact ⟨by simp only; omega, Nat.le_refl _, hk3.lt⟩
  go_ret2
  exact ⟨w.heap.size + 1 + 1, rfl, ⟨_, _, _, _, _, _, _, _, _, hN, hV, Vol.none, Vol.none, new_ok Hx.out Hy.out hn⟩, by omega, hB⟩
theorem new_ (x y : Int) (n : Nat) (hx : 0 ≤ x) (hx2 : I64 x) (hy : 0 ≤ y) (hy2 : I64 y) (hn : n ≤ 1024) : Calls Try.prog 9 #[.int .i64 x, .int .i64 y, .int .i64 (n : Int)] w fun e w' => ∃ b, e = .returned (.tuple #[.pointer (some ⟨b, 0, none⟩), .int .i64 0]) ∧ Be w' b (fun _ => True) (newS x y n) ∧ w.heap.size ≤ b ∧ Below w.heap.size w w' :=
  (new_u w x y n hx hx2 hy hy2 hn).mono fun e w' ⟨b, he, hB, hb, hbb⟩ => ⟨b, he, hB.mono (fun _ _ _ => trivial), hb, hbb⟩
end
end Lan
end Go.Proofs.Ytganoklclnbjkaa
