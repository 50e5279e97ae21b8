/- Layer 14: the document's cut, parts, Ops, Reads. -/
import Derived.Test.YtdcggnfplfgcnaaPlaD
set_option linter.all false
namespace Go.Proofs.Ytdcggnfplfgcnaa
open Go.RowKit
namespace Pla
open Blo (I64 Dat Sml FitB dat_own)
open Sma (Pc Mp Mr mv runB run_mem)

section
variable (w : World)
set_option maxRecDepth 100000 in
set_option maxHeartbeats 1000000 in
theorem rcut_ (o : BOp) (X : Option Addr) (m c : Nat) (hd : Dat w o X m c) (n : Int) (hn : o.kind = 1 → n = (o.data.length : Int)) (h0 : 0 ≤ o.off) (h2 : o.off + n ≤ 1024) (f t : Int) (hf : o.off ≤ f) (ht : t ≤ o.off + n) (hft : f < t) :
    Calls Try.prog 59 #[oa o (.slice X m c), .int .i64 f, .int .i64 t] w fun e w' => CutAns w w' e (cutO o f t) := by
  have hwt : IntKind.i64.wrap (t - f) = t - f := by rw [IntKind.wrap_i64]; omega
  obtain ⟨fk, -, -⟩ := hd.fit.all
  have hb1 := (Below.refl w.heap.size w).alloc (Nat.le_refl _) (oo o (.slice X m c))
  have hba : Below w.heap.size w ((w.alloc (oo o (.slice X m c))).alloc (oo zO (.slice none 0 0))) := hb1.alloc (by simp) _
  have k2 : Blk ((w.alloc (oo o (.slice X m c))).alloc (oo zO (.slice none 0 0))) w.heap.size 27 #[.int .i64 o.kind, .int .i64 o.off, .int .i64 o.len, .slice X m c] := (Blk.new w _ _ rfl).alloc _
  have hz1 : Blk ((w.alloc (oo o (.slice X m c))).alloc (oo zO (.slice none 0 0))) (w.heap.size + 1) 27 #[.int .i64 0, .int .i64 0, .int .i64 0, .slice none 0 0] := Blk.new _ _ _ (by simp)
  have hs2 : ((w.alloc (oo o (.slice X m c))).alloc (oo zO (.slice none 0 0))).heap.size = w.heap.size + 2 := by simp
  simp only [zO] at hba k2 hz1 hs2
  obtain ⟨b0, b1, b2, b3, -, -, -, -⟩ := cells4 k2
  obtain ⟨z0, z1, z2, z3, y0, y1, y2, y3⟩ := cells4 hz1
  by_cases k1 : o.kind = 1
  · have hc := hn k1
    have hlen := hd.len
    obtain ⟨i0, hi0, hy0, hy1, hy2⟩ := u64_info
    have Hy := Lib.hid hy2
    obtain ⟨k, hk⟩ := Int.eq_ofNat_of_zero_le (show 0 ≤ f - o.off by omega)
    obtain ⟨q, hq⟩ := Int.eq_ofNat_of_zero_le (show 0 ≤ t - f by omega)
    have hkq : k + q ≤ m := by omega
    have hle := hd.le
    have hcap := hd.cap
    obtain ⟨g, p, _, rfl, _, _⟩ := Blo.ns_get hd.ns (i := 0) (by omega)
    have hcut := ns_cut hd.ns hkq
    have HD := Lib.hid (show cutO o f t = ⟨1, f, 0, (o.data.drop k).take q⟩ by rw [cut_write k1, hk, hq]; rfl)
    have hlq : ((o.data.drop k).take q).length = q := by rw [List.length_take, List.length_drop]; omega
    have HLq := Lib.hid hlq
    have hw1 : IntKind.i64.wrap (f - o.off) = (k : Int) := by rw [IntKind.wrap_i64]; omega
    have hw2 : IntKind.i64.wrap (t - o.off) = ((k + q : Nat) : Int) := by rw [IntKind.wrap_i64]; omega
    have t1 : (k : Int) ≤ (c : Int) := by omega
    have t2 : ¬ c = k := by omega
    have t3 : (0 : Int) ≤ (k : Int) := by omega
    have t5 : ((k + q : Nat) : Int) ≤ (c : Int) := by omega
    have t6 : (k : Int) ≤ ((k + q : Nat) : Int) := by omega
    have t7 : k ≤ c := by omega
    have t8 : k + q - k = q := by omega
    have hq8 : (0 + (k + q - k)) * 8 ≤ 140737488355328 := by omega
    have hq63 : 0 + (k + q - k) ≤ maxLen := by unfold maxLen; omega
    have hqc : q ≤ c - k := by omega
    have hck : c - k ≤ 9223372036854775807 := by omega
    have hcut1 := (hcut.below hba).1
    have Ht8 := Lib.hid t8
    have hcut2 : Rd ((w.alloc (oo o (.slice (some ⟨g, p, none⟩) m c))).alloc (oo ⟨0, 0, 0, []⟩ (.slice none 0 0))) (some ⟨g, p + k, none⟩) 1 (k + q - k) (nvs ((o.data.drop k).take q)) := by rw [t8]; exact hcut1
    clear hcut1
    have hbz := hba.size
    have hsl : q ≤ c - k := hqc
    rw [k1] at b0
    clear hk hq hlq hd hcut hc hlen hn hy2 hb1 k1
    go_enter Try.func59, Try.ntmps59
    go_wp2_with (first
      | (at_builtin
         go_must (refine wpList_app _ rfl (.const (.slice none 0 0)) (.tmp 21) _ rfl w.heap.size 64 i0 _ 1 8 Try.underlying25 hi0 hy0 hy1 Hy.out rfl Nat.one_pos (.slice none 0 0) 0 [] rfl (own_nil _ _ _ _) (some ⟨g, p + k, none⟩) (k + q - k) (c - k) _ rfl (fun h => some_ne h) hcut2 (nvs_one _) hq63 hq8 hbz ?_)
         intro v3 w3 hown3 hg3 hat3
         have hz3 := hz1.grown hg3 (fun e => by cases e)
         have hB3 : Below w.heap.size w w3 := hba.grown hg3 hba.size (fun j hj => by cases hj)
         clear z0 z1 z2 z3 y0 y1 y2 y3 b0 b1 b2 b3
         obtain ⟨z0, z1, z2, z3, y0, y1, y2, y3⟩ := cells4 hz3
         rw [List.nil_append, Nat.zero_add, Ht8.out] at hown3
         have hv3 : ∀ j, v3.ownBlock = some j → w.heap.size + 2 ≤ j := fun j hj => by
           rcases hat3 with e | e
           · rw [e] at hj; cases hj
           · rw [e] at hj; injection hj with hj; rw [← hj]; exact Nat.le_of_eq (by simp)
         obtain ⟨A', c', rfl, -, -, -⟩ := own_form hown3)
      | fail)
    refine bodyPost_ret (Blo.results_op (q := w.heap.size + 1) rfl rfl (blk_set4 hz3 _ _ _ _)) rfl ?_
    rw [HD.out]
    refine ⟨_, rfl, ?_, below_set4 hB3 (Nat.le_succ _) (Nat.le_refl _) _ _ _ _⟩
    simp only [HLq.out]
    exact own_grown hown3 (grown4 w3 (w.heap.size + 1) _ _ _ _) (fun j hj e => by
      injection e with e
      have := hv3 j hj
      omega)
  · have HD := Lib.hid (show cutO o f t = ⟨o.kind, f, t - f, []⟩ by rw [cut_else k1])
    clear hd
    go_enter Try.func59, Try.ntmps59
    go_wp2
    refine bodyPost_ret (Blo.results_op (q := w.heap.size + 1) rfl rfl (Blk.new (w.alloc (oo o (.slice X m c))) 27 #[.int .i64 o.kind, .int .i64 f, .int .i64 (t - f), .slice none 0 0] (by simp))) rfl ?_
    rw [HD.out]
    exact ⟨_, rfl, own_nil _ _ _ _, hb1.alloc (by simp) _⟩
end
end Pla
end Go.Proofs.Ytdcggnfplfgcnaa
