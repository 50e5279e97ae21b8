/- The statements' own functions, of layer 4: alive, restart. -/
import Derived.Test.YtlpbdnncbinbmaaWalI
namespace Go.Proofs.Ytlpbdnncbinbmaa
open Go.ChangeShapes Go.WideShapes Go.ChangeAt Go.RowKit Go.Maps

theorem Uss.one {w : World} {lo hi : Nat} {t : TypeId} {X : Option Addr} {m c : Nat} {a : Int} {x : List UInt8} (hb : Bs w X m x) (hX : X = none → m = 0 ∧ c = 0) (hc : m ≤ c) (hm : c ≤ maxLen) (ho : ∀ p, X = some p → 0 < m → p.block < lo ∨ hi ≤ p.block) (hhi : hi ≤ w.heap.size) :
    Uss (w.alloc (.cells #[.int .i64 a, .slice X m c] t)) lo hi (some ⟨w.heap.size, 0, none⟩) 1 [(a, x)] := by
  refine ⟨rfl, _, Rd.new w #[.int .i64 a, .slice X m c] t (0, 0) rfl, ?_, fun p hp _ => by injection hp with hp; subst hp; exact .inr hhi⟩
  have := (UC.nil (w := w.alloc (.cells #[.int .i64 a, .slice X m c] t)) (F := fun b => b < lo ∨ hi ≤ b)).snoc (a, x) (hb.alloc _) hX hc hm ho
  exact this
theorem cut_start (s : DS) (ks : List Bool) : s.cut.start ks = (0, { s with plate := s.woken ks, cache := fun _ => none, on := true, fuse := -1 }) := rfl
/-- What a disk is behind a Cut and a Start. -/
def again (s : DS) (ks : List Bool) : DS := { s with plate := s.woken ks, cache := fun _ => none, on := true, fuse := -1 }
theorem again_up (s : DS) (ks : List Bool) : Up (again s ks) := ⟨rfl, fun _ => rfl⟩
theorem rightE_one {m : Nat} {a : Int} {x : List UInt8} (h0 : 0 ≤ a) (h1 : a < m) (h2 : x.length ≤ 48) : rightE m [(a, x)] = 0 := by
  rw [rightE_many]
  · simp
  · intro u hu hb
    rw [List.mem_singleton] at hu
    subst hu
    unfold badU at hb
    simp only at hb
    omega
  · rintro ⟨i, hi, k, hk, _⟩
    simp at hi
    omega
set_option maxRecDepth 100000 in
set_option maxHeartbeats 2000000 in
theorem alive_ (w : World) : Calls Try.prog 13 #[] w fun e w' => e = .returned (.bool true) ∧ Below w.heap.size w w' := by
  have kc := fun (w : World) (C : Array Value) (n c g : Nat) (hg : g = w.heap.size) => Joins.run_convert_bytes_const_at (P := Try.prog) w 36 5 C n c g hg Try.underlying36 Try.underlying5
  go_enter Try.func13, Try.ntmps13
  go_wp2_with fail
  refine (begin_ 12 w (by decide) (by decide)).mono ?_
  rintro e w1 ⟨g, b, s1, t1, rfl, hg, hb1, hL1, hst1, ht1, hn1, hf1⟩
  have hbl := hL1.blt
  have hblt := hL1.lt
  go_wp2_with fail
  have hx := Bs.new w1 [97] 5 (1, 2)
  have hU := Uss.one (w := w1.alloc (.cells (bvs [97]).toArray 5 (1, 2))) (lo := g) (hi := b + 1) (t := 67) (a := 0) hx (fun e => by cases e) (Nat.le_refl 1) (by unfold maxLen; omega) (fun p hp _ => by injection hp with hp; subst hp; exact .inr (by show b + 1 ≤ w1.heap.size; omega)) (by simp; omega)
  simp only [World.size_alloc] at hU
  refine (commit_ g b s1 t1 0 zeroP _ 1 1 [(0, [97])] _ ((hL1.alloc _).alloc _) hst1 hU (by omega) (rightE_one (by omega) (by rw [hn1]; decide) (by decide)) (by unfold topN; omega) (by decide)).mono ?_
  rintro e w2 ⟨s2, hfz2, hT2, hD⟩
  have hf2 := hfz2.fuse (by omega)
  have hn2 := hfz2.n
  clear hx hU kc
  obtain ⟨t2, hlt2, hle2, rfl, hst2, hL2⟩ | ⟨_, hf, _⟩ := hD
  · have hB2 : Below w.heap.size w w2 := by
      have k1 : Below w.heap.size w ((w1.alloc (.cells #[.int .u8 97] 5 (1, 2))).alloc (.cells #[.int .i64 0, .slice (some ⟨w1.heap.size, 0, none⟩) 1 1] 67)) := by
        have := hb1.size
        go_grown
      exact k1.trans (hT2.below hg (by omega) (by simp; have := hb1.size; omega))
    go_wp2_with fail
    refine (cut_ g s2 _ hL2.disk).mono ?_
    rintro e w3 ⟨rfl, h3, ht3⟩
    have hz2 := hB2.size
    have hgl := hL2.disk.lt
    have hB3 : Below w.heap.size w w3 := hB2.trans (ht3.below (by omega) (by omega))
    have hz3 := hB3.size
    have hgl3 := h3.lt
    go_wp2_with fail
    refine (start_ g s2.cut none 0 0 [] _ h3 Rd.nil (by omega) (fun a ha => by cases ha)).mono ?_
    rw [cut_start]
    rintro e w4 ⟨rfl, h4, ht4⟩
    have h4 : Dk w4 g (again s2 []) := h4
    have hB4 : Below w.heap.size w w4 := hB3.trans (ht4.below (by omega) (by omega))
    have hz4 := hB4.size
    have hgl4 := h4.lt
    have hj4 : Jn (again s2 []).plate (again s2 []).n t2 1 (doneP [(0, [97])] zeroP) := by
      show Jn (s2.woken []) s2.n _ _ _
      rw [hst2.up.woken]; exact hst2.jn
    have hf4 : (again s2 []).fuse = -1 := rfl
    have hn4 : (again s2 []).n = 12 := hn2.trans hn1
    have hup4 := again_up s2 []
    generalize again s2 [] = s4 at *
    go_wp2_with fail
    refine (open_log g s4 t2 1 _ w4 h4 (by omega) hup4 hj4 (by unfold topN; omega) (by decide)).mono ?_
    rintro e w5 ⟨s5, hd5, hfz5, ht5, hO⟩
    have hn5 := hfz5.n
    obtain ⟨b5, t5, hle, hle5, rfl, hb5, hst5, hL5⟩ | ⟨_, hf, _⟩ := hO
    · have hB5 : Below w.heap.size w w5 := hB4.trans (ht5.below (by omega) (by omega))
      have hz5 := hB5.size
      go_wp2_with fail
      refine (lread_ g b5 s5 t5 1 0 _ w5 hL5 hst5 (by unfold topN; omega) (by decide) (by omega)).mono ?_
      rintro e w6 ⟨q, rfl, hq, hbk, hL6, ht6⟩
      have hc0 : w6.cell? ⟨q, 0, none⟩ = some (.int .u8 97) := hbk.cell (j := 0) rfl
      have hB6 : Below w.heap.size w w6 := hB5.trans (ht6.below (by omega) (by omega))
      go_wp2_with fail
      refine (number_log g b5 s5 1 _ hL6).mono ?_
      rintro e w' ⟨rfl, rfl⟩
      have hp := places_log g b5 s5 1 w6 hL6
      rw [show s5.n - 9 = 3 by omega] at hp
      go_wp2_with fail
      refine hp.mono ?_
      rintro e w' ⟨rfl, rfl⟩
      go_wp2
      go_ret
      exact ⟨rfl, hB6⟩
    · omega
  · omega
end Go.Proofs.Ytlpbdnncbinbmaa
