/- Package disk's New. -/
import Derived.Test.YtlpbdnncbinbmaaDiskD
namespace Go.Proofs.Ytlpbdnncbinbmaa
open Go.RowKit Go.Maps

theorem info_sector : (Try.prog.info? 87).map (fun i => (i.zero, i.size, i.bytes)) = some (some (.agg (bvs zeros).toArray), 64, 64) := by kernel_rfl
theorem zeros_at {i : Nat} (hi : i < 64) : (bvs zeros)[i]? = some (.int .u8 0) := by
  unfold bvs zeros
  rw [List.map_replicate, List.getElem?_replicate, if_pos hi]
  rfl
theorem madeCells_zeros (n j : Nat) (h : j < n) : (madeCells (bvs zeros).toArray n)[j]? = some (.int .u8 0) := by
  have h64 : (bvs zeros).length = 64 := rfl
  have hm : j % 64 < 64 := Nat.mod_lt _ (by decide)
  simp only [madeCells, Array.getElem?_map, List.size_toArray, h64]
  rw [Array.getElem?_eq_getElem (by simpa using h)]
  simp only [Array.getElem_range, Option.map_some, Option.some.injEq]
  rw [getElem!_def, List.getElem?_toArray, zeros_at hm]
theorem plate_fresh {w : World} {g n : Nat} {t : TypeId} (hb : Blk w g t (madeCells (bvs zeros).toArray (n * 64))) : PlateAt w g n (fun _ => zeros) := fun j hj => by
  refine ⟨rfl, hb.range fun i v hv => ?_, hb.there _ _ (by rw [size_madeCells]; omega)⟩
  have hi : i < 64 := (List.getElem?_eq_some_iff.1 hv).1
  rw [madeCells_zeros _ _ (by omega), ← hv]
  exact (zeros_at hi).symm

set_option maxRecDepth 100000 in
theorem new_bad (k : Int) (w : World) (hk : ¬ (1 ≤ k ∧ k ≤ 256)) : Calls Try.prog 24 #[.int .i64 k] w fun e w' => e = .returned (.tuple #[.pointer none, .int .i64 1]) ∧ w = w' := by
  by_cases h1 : k < 1
  · go_enter Try.func24, Try.ntmps24
    go_wp2
    go_ret2
    exact ⟨rfl, rfl⟩
  · have h2 : 256 < k := by omega
    clear hk
    go_enter Try.func24, Try.ntmps24
    go_wp2
    go_ret2
    exact ⟨rfl, rfl⟩

set_option maxRecDepth 100000 in
set_option maxHeartbeats 1000000 in
theorem new_ (n : Nat) (w : World) (h1 : 0 < n) (h2 : n ≤ 256) : Calls Try.prog 24 #[.int .i64 (n : Int)] w fun e w' => ∃ g, e = .returned (.tuple #[.pointer (some ⟨g + 2, 0, none⟩), .int .i64 0]) ∧ w.heap.size = g ∧ Dk w' g (DS.fresh n) ∧ Below w.heap.size w w' := by
  obtain ⟨i0, hi0, hz0, hz1, hz2⟩ := info_parts info_sector
  have Hz := Lib.hid hz2
  have hmm := @run_makeMap Try.prog
  clear hz2
  go_enter Try.func24, Try.ntmps24
  go_wp2_with (first
    | (at_make
       refine wpList_make_blk _ rfl _ _ 81 rfl 87 i0 _ 64 64 Try.underlying81 hi0 hz0 hz1 Hz.out .i64 .i64 _ _ n rfl rfl rfl rfl (by omega) (by omega) ?_
       intro w1 hk1 hb1 hs1)
    | fail)
  have hB : Below w.heap.size w _ := (hb1.alloc hb1.size (.map #[] 0)).alloc (by simp; omega) (.cells #[.pointer (some ⟨w1.heap.size + 1, 0, none⟩), .slice (some ⟨w.heap.size, 0, none⟩) n n, .map (some w1.heap.size), .bool true, .int .i64 (-1)] 84)
  have hm := (World.ownsMap_made w1 Try.prog 3 secE).alloc (.cells #[.pointer (some ⟨w1.heap.size + 1, 0, none⟩), .slice (some ⟨w.heap.size, 0, none⟩) n n, .map (some w1.heap.size), .bool true, .int .i64 (-1)] 84)
  have hd := Blk.new (w1.alloc (.map #[] 0)) 84 #[.pointer (some ⟨w1.heap.size + 1, 0, none⟩), .slice (some ⟨w.heap.size, 0, none⟩) n n, .map (some w1.heap.size), .bool true, .int .i64 (-1)] (g := w1.heap.size + 1) (by simp)
  have hp := (hk1.alloc (.map #[] 0)).alloc (.cells #[.pointer (some ⟨w1.heap.size + 1, 0, none⟩), .slice (some ⟨w.heap.size, 0, none⟩) n n, .map (some w1.heap.size), .bool true, .int .i64 (-1)] 84)
  simp only [hs1] at hB hm hd hp
  go_ret2
  exact ⟨w.heap.size, rfl, rfl, ⟨hd, plate_fresh hp, ⟨.map [], hm.mono (Nat.zero_le _), MpIs.empty n⟩, h2, h1, by simp [DS.fresh]⟩, hB⟩
end Go.Proofs.Ytlpbdnncbinbmaa
