/- The statements' own function logs (through the layers, stage 4); losses, as arguments. -/
import Derived.Test.YtlpbdnncbinbmaaWalS
namespace Go.Proofs.Ytlpbdnncbinbmaa
open Go.ChangeShapes Go.WideShapes Go.ChangeAt Go.RowKit Go.Maps

set_option maxRecDepth 100000 in
set_option maxHeartbeats 2000000 in
theorem logs_ (w : World) : Calls Try.prog 30 #[] w fun e w' => e = .returned (.bool true) ∧ Below w.heap.size w w' := by
  have kc := fun (w : World) (C : Array Value) (n c g : Nat) (hg : g = w.heap.size) => Joins.run_convert_bytes_const_at (P := Try.prog) w 36 5 C n c g hg Try.underlying36 Try.underlying5
  go_enter Try.func30, Try.ntmps30
  go_wp2_with fail
  refine (new_ 12 w (by omega) (by omega)).mono ?_
  rintro e wa ⟨g, rfl, hg, hda, hba⟩
  go_wp2_with fail
  refine (format_ g (DS.fresh 12) wa hda (by decide) (bare_fresh 12)).mono ?_
  rintro e wb ⟨sb, hdb, hfzb, htb, hF⟩
  have hfb := hfzb.fuse (show (DS.fresh 12).fuse < 0 by show (-1 : Int) < 0; decide)
  have hnb : sb.n = 12 := hfzb.n
  obtain ⟨t', ht', rfl, hst⟩ | ⟨_, hf, _⟩ := hF
  rotate_left
  · exact absurd hf (by show ¬ (0 : Int) ≤ -1; decide)
  have hBb : Below w.heap.size w wb := hba.trans (htb.below (by omega) hba.size)
  go_wp2_with fail
  refine (open_log g sb t' 0 zeroP wb hdb (by omega) hst.up hst.jn (by unfold topN; omega) (by decide)).mono ?_
  rintro e w1 ⟨s1, hd1, hfz1, ht1, hO⟩
  have hf1 : s1.fuse = -1 := (hfz1.fuse (by rw [hfb]; show (-1 : Int) < 0; decide)).trans hfb
  have hn1 : s1.n = 12 := hfz1.n.trans hnb
  obtain ⟨b, t1, hle, hle2, rfl, hb, hst1, hL1⟩ | ⟨_, hf, _⟩ := hO
  rotate_left
  · rw [hfb] at hf; exact absurd hf (by show ¬ (0 : Int) ≤ -1; decide)
  have hb1 : Below w.heap.size w w1 := hBb.trans (ht1.below (by omega) (by have := hBb.size; omega))
  have hbl := hL1.blt
  have hblt := hL1.lt
  clear hda hdb hba hBb htb ht1 hd1 hst
  go_wp2_with fail
  have hx := Bs.new w1 [97] 5 (1, 2)
  have hU := Uss.one (w := w1.alloc (.cells (bvs [97]).toArray 5 (1, 2))) (lo := g) (hi := b + 1) (t := 67) (a := 1) hx (fun e => by cases e) (Nat.le_refl 1) (by unfold maxLen; omega) (fun p hp _ => by injection hp with hp; subst hp; exact .inr (by show b + 1 ≤ w1.heap.size; omega)) (by simp; omega)
  simp only [World.size_alloc] at hU
  refine (commit_ g b s1 t1 0 zeroP _ 1 1 [(1, [97])] _ ((hL1.alloc _).alloc _) hst1 hU (by omega) (rightE_one (by omega) (by rw [hn1]; decide) (by decide)) (by unfold topN; omega) (by decide)).mono ?_
  rintro e w2 ⟨s2, hfz2, hT2, hD⟩
  have hf2 := hfz2.fuse (by omega)
  have hn2 := hfz2.n
  clear hx hU kc
  obtain ⟨t2, hlt2, hle2, rfl, hst2, hL2⟩ | ⟨_, hf, _⟩ := hD
  rotate_left
  · omega
  have hB2 : Below w.heap.size w w2 := by
    have k1 : Below w.heap.size w ((w1.alloc (.cells #[.int .u8 97] 5 (1, 2))).alloc (.cells #[.int .i64 1, .slice (some ⟨w1.heap.size, 0, none⟩) 1 1] 67)) := by
      have := hb1.size
      go_grown
    exact k1.trans (hT2.below (by omega) (by omega) (by simp; have := hb1.size; omega))
  go_wp2_with fail
  refine (cut_ g s2 _ hL2.disk).mono ?_
  rintro e w3 ⟨rfl, h3, ht3⟩
  have hz2 := hB2.size
  have hgl := hL2.disk.lt
  have hB3 : Below w.heap.size w w3 := hB2.trans (ht3.below (by omega) (by omega))
  have hz3 := hB3.size
  have hgl3 := h3.lt
  go_wp2_with fail
  refine (start_ g s2.cut none 0 0 [] _ h3 Rd.nil (by omega) (fun a ha => by cases ha)).mono ?_
  rw [cut_start]
  rintro e w4 ⟨rfl, h4, ht4⟩
  have h4 : Dk w4 g (again s2 []) := h4
  have hB4 : Below w.heap.size w w4 := hB3.trans (ht4.below (by omega) (by omega))
  have hz4 := hB4.size
  have hgl4 := h4.lt
  have hj4 : Jn (again s2 []).plate (again s2 []).n t2 1 (doneP [(1, [97])] zeroP) := by
    show Jn (s2.woken []) s2.n _ _ _
    rw [hst2.up.woken]; exact hst2.jn
  have hf4 : (again s2 []).fuse = -1 := rfl
  have hn4 : (again s2 []).n = 12 := hn2.trans hn1
  have hup4 := again_up s2 []
  generalize again s2 [] = s4 at *
  go_wp2_with fail
  refine (open_log g s4 t2 1 _ w4 h4 (by omega) hup4 hj4 (by unfold topN; omega) (by decide)).mono ?_
  rintro e w5 ⟨s5, hd5, hfz5, ht5, hO⟩
  have hn5 := hfz5.n
  obtain ⟨b5, t5, hle, hle5, rfl, hb5, hst5, hL5⟩ | ⟨_, hf, _⟩ := hO
  rotate_left
  · omega
  have hB5 : Below w.heap.size w w5 := hB4.trans (ht5.below (by omega) (by omega))
  have hz5 := hB5.size
  go_wp2_with fail
  refine (lread_ g b5 s5 t5 1 1 _ w5 hL5 hst5 (by unfold topN; omega) (by decide) (by omega)).mono ?_
  rintro e w6 ⟨q, rfl, hq, hbk, hL6, ht6⟩
  have hc0 : w6.cell? ⟨q, 0, none⟩ = some (.int .u8 97) := hbk.cell (j := 0) rfl
  have hB6 : Below w.heap.size w w6 := hB5.trans (ht6.below (by omega) (by omega))
  go_wp2
  go_ret
  exact ⟨rfl, hB6⟩

/-! ### losses -/
abbrev LossV : Type := UInt8 × List Bool × Unit
def lossShp : Shp LossV := Shp.agg (Shp.pair Shp.u8 (Shp.pair (Shp.slice Shp.bool 1) Shp.unit))
theorem losses_later {W w : World} {S : Option Addr} {n c : Nat} {l : List LossV} (h : (Shp.slice lossShp 32).R W [.slice S n c] l) (hb : Below W.heap.size W w) {k : Nat} (hk : k < n) :
    ∃ b o, S = some ⟨b, o, none⟩ ∧ ∃ (st : Nat) (B : Option Addr) (m d : Nat) (ks : List Bool), st < 256 ∧ w.cell? ⟨b, o + k * 2, none⟩ = some (.int .u8 (st : Int)) ∧ w.cell? ⟨b, o + k * 2 + 1, none⟩ = some (.slice B m d) ∧ Bls w B m ks ∧ m ≤ 140737488351232 ∧ (∀ a, B = some a → 0 < m → a.block < W.heap.size) ∧ b < W.heap.size := by
  obtain ⟨A', c', e, h1, h2, h3, h4, h5⟩ := h
  simp only [List.cons.injEq, Value.slice.injEq, and_true] at e
  obtain ⟨rfl, rfl, rfl⟩ := e
  obtain ⟨b, o, vs, rfl, hl, hc, hr⟩ := h5 k hk
  obtain ⟨c1, r1, rfl, hl1, q1, c2, r2, rfl, hl2, q2, q3⟩ := hr
  have q1 : c1 = [.int .u8 (l[k].1.toNat : Int)] := q1
  have q3 : r2 = [] := q3
  subst q1 q3
  have q2' := q2
  obtain ⟨B, d, rfl, _⟩ := q2'
  obtain ⟨p1, p2, p3, p4⟩ := bls_shp q2
  have hc' : ∀ (j : Nat) u, ([Value.int .u8 (l[k].1.toNat : Int), .slice B _ d] : List Value)[j]? = some u → w.cell? ⟨b, o + k * 2 + j, none⟩ = some u := fun j u hu => (hb.cell (cell_lt (hc j u hu))).trans (hc j u hu)
  have hbl : b < W.heap.size := cell_lt (hc 0 _ rfl)
  exact ⟨b, o, rfl, _, B, _, d, _, l[k].1.toNat_lt, hc' 0 _ rfl, hc' 1 _ rfl, Rd.below p1 hb, by omega, rd_block p1, hbl⟩
theorem loss_len {w : World} {A : Option Addr} {n c : Nat} {l : List LossV} (h : (Shp.slice lossShp 32).R w [.slice A n c] l) : n ≤ 140737488351232 := by
  obtain ⟨A', c', e, h1, h2, h3, _⟩ := h
  simp only [List.cons.injEq, Value.slice.injEq, and_true] at e
  obtain ⟨rfl, rfl, rfl⟩ := e
  omega
theorem ops_loss : Opens Try.prog 71 lossShp :=
  opens_struct Try.underlying71 (by kernel_rfl) (opensF_cons (opens_u8 Try.underlying5 (by kernel_rfl)) rfl (opensF_cons ops_bools rfl (opensF_nil _)))
theorem ops_losses : Opens Try.prog 69 (Shp.slice lossShp 32) := opens_slice 32 Try.underlying69 (by kernel_rfl) (by kernel_rfl) (by decide) ops_loss

/-! ### two updates -/
theorem Uss.two {w : World} {lo hi : Nat} {t : TypeId} {X Y : Option Addr} {a b : Int} {x y : List UInt8} {m n c d : Nat} (hx : Bs w X m x) (hX : X = none → m = 0 ∧ c = 0) (hc : m ≤ c) (hm : c ≤ maxLen) (ho : ∀ p, X = some p → 0 < m → p.block < lo ∨ hi ≤ p.block)
    (hy : Bs w Y n y) (hY : Y = none → n = 0 ∧ d = 0) (hd : n ≤ d) (hn : d ≤ maxLen) (hoy : ∀ p, Y = some p → 0 < n → p.block < lo ∨ hi ≤ p.block) (hhi : hi ≤ w.heap.size) :
    Uss (w.alloc (.cells #[.int .i64 a, .slice X m c, .int .i64 b, .slice Y n d] t)) lo hi (some ⟨w.heap.size, 0, none⟩) 2 [(a, x), (b, y)] := by
  refine ⟨rfl, _, Rd.new w #[.int .i64 a, .slice X m c, .int .i64 b, .slice Y n d] t (0, 0) rfl, ?_, fun p hp _ => by injection hp with hp; subst hp; exact .inr hhi⟩
  have h1 := (UC.nil (w := w.alloc (.cells #[.int .i64 a, .slice X m c, .int .i64 b, .slice Y n d] t)) (F := fun b => b < lo ∨ hi ≤ b)).snoc (a, x) (hx.alloc _) hX hc hm ho
  exact h1.snoc (b, y) (hy.alloc _) hY hd hn hoy
theorem rightE_two {m : Nat} {a b : Int} {x y : List UInt8} (h0 : 0 ≤ a) (h1 : a < m) (h2 : x.length ≤ 48) (h3 : 0 ≤ b) (h4 : b < m) (h5 : y.length ≤ 48) (hne : b ≠ a) : rightE m [(a, x), (b, y)] = 0 := by
  rw [rightE_many]
  · simp
  · intro u hu hb
    simp only [List.mem_cons, List.not_mem_nil, or_false] at hu
    unfold badU at hb
    rcases hu with rfl | rfl <;> simp only at hb <;> omega
  · rintro ⟨i, hi, k, hk, e⟩
    simp only [List.length_cons, List.length_nil] at hi
    obtain rfl : i = 1 := by omega
    obtain rfl : k = 0 := by omega
    exact hne e
/-- What the two places hold together. -/
def Inv (P : Nat → List UInt8) : Prop := ∃ a b : UInt8, (∃ r, P 0 = a :: r) ∧ (∃ r, P 2 = b :: r) ∧ (a.toNat + b.toNat) % 256 = 255
theorem inv_done (P : Nat → List UInt8) (a b : UInt8) (h : (a.toNat + b.toNat) % 256 = 255) : Inv (doneP [(0, [a]), (2, [b])] P) :=
  ⟨a, b, ⟨_, rfl⟩, ⟨_, rfl⟩, h⟩
end Go.Proofs.Ytlpbdnncbinbmaa
