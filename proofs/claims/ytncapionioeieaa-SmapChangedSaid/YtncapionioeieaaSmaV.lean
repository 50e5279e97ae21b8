/- Layer 13: smap's Changed. -/
import Derived.Test.YtncapionioeieaaSmaT
set_option linter.all false
namespace Go.Proofs.Ytncapionioeieaa
open Go.RowKit
namespace Sma

theorem push_nd {l : List Pc} {b nd : Int} {q : Pc} (h : q ∈ pushC l b nd) : q.nd = nd ∨ ∃ y ∈ l, q.nd = y.nd := by
  rcases snoc_cases l with rfl | ⟨p, y, rfl⟩
  · rw [pushC_nil, List.mem_singleton] at h
    subst h
    exact .inl rfl
  · rw [pushC_snoc] at h
    split at h
    · rcases List.mem_append.1 h with h | h
      · exact .inr ⟨q, by simp [h], rfl⟩
      · rw [List.mem_singleton] at h
        subst h
        exact .inr ⟨y, by simp, rfl⟩
    · rcases List.mem_append.1 h with h | h
      · exact .inr ⟨q, h, rfl⟩
      · rw [List.mem_singleton] at h
        subst h
        exact .inl rfl
theorem chg_nd {f g : Nat → Int} : ∀ {k : Nat}, (∀ j, j < k → I64 (g j)) → ∀ q ∈ chg f g k, I64 q.nd
  | 0, _, q, h => by cases h
  | k + 1, hg, q, h => by
    rw [chg] at h
    split at h
    · exact chg_nd (fun j hj => hg j (by omega)) q h
    · rcases push_nd h with e | ⟨y, hy, e⟩
      · rw [e]; exact hg k (by omega)
      · rw [e]; exact chg_nd (fun j hj => hg j (by omega)) y hy
theorem chg_fit {f g : Nat → Int} {k : Nat} (hk : k ≤ 1024) (hg : ∀ j, j < k → I64 (g j)) : (∀ q ∈ chg f g k, 0 ≤ q.fr ∧ q.en ≤ 1024 ∧ 0 ≤ q.en) ∧ (∀ q ∈ chg f g k, Fit q) ∧ (chg f g k).length ≤ 1024 := by
  obtain ⟨h1, -, -, h4⟩ := chg_last f g k
  refine ⟨fun q hq => by have := h1 q hq; omega, fun q hq => ?_, by omega⟩
  have := h1 q hq
  exact ⟨by unfold I64; omega, by unfold I64; omega, chg_nd hg q hq⟩
theorem node_in {m : Mp} (hr : m.right = true) {k : Nat} (h : (k : Int) < m.n) : 0 ≤ nodeF m k ∧ nodeF m k < 16 := by
  obtain ⟨pre, p, post, hat⟩ := at_of hr (a := (k : Int)) (by omega) h
  unfold nodeF
  rw [hat.node]
  exact hat.nd
/-- The nodes of all blocks, read. -/
theorem own_cell {w : World} {m : Mp} (hr : m.right = true) {A : Option Addr} {n : Nat} (h : Rd w A 1 n (ivs (own m.ps))) {k : Nat} (hk : (k : Int) < m.n) : k < n ∧ ∃ b o, A = some ⟨b, o, none⟩ ∧ w.cell? ⟨b, o + k, none⟩ = some (.int .i64 (nodeF m k)) := by
  have hrun := (right_is hr).2.2.2
  have hl := own_len hrun
  have hn : n = (own m.ps).length := by have := h.1; rw [ivs_length] at this; omega
  have hkn : k < n := by omega
  obtain ⟨b, o, e, hx, hc⟩ := h.at_ hkn
  refine ⟨hkn, b, o, e, ?_⟩
  have hg := own_at hrun k (by omega)
  rw [Int.zero_add] at hg
  have hlt : k < (own m.ps).length := by omega
  rw [List.getElem?_eq_getElem hlt] at hg
  injection hg with hg
  rw [hc]
  simp only [ivs, List.getElem_map]
  rw [hg]
  rfl
theorem changed_bad {a b : Mp} (h : a.right = false ∨ b.right = false ∨ a.n ≠ b.n) : changedA a b = ([], 1) := by unfold changedA; rw [if_pos h]
theorem changed_ok {a b : Mp} (h1 : a.right = true) (h2 : b.right = true) (h3 : a.n = b.n) : changedA a b = (chg (nodeF a) (nodeF b) a.n.toNat, 0) := by
  unfold changedA
  rw [if_neg (by simp [h1, h2, h3])]
/-- What is answered: pieces and an error's number. -/
def PAns (w w' : World) (e : Ending) (r : List Pc × Int) : Prop := ∃ A k c, e = .returned (.tuple #[.slice A k c, .int .i64 r.2]) ∧ Ps w' A k r.1 ∧ k ≤ 9223372036854775807 ∧ Below w.heap.size w w'
section
variable (w : World)
set_option maxRecDepth 100000 in
set_option maxHeartbeats 4000000 in
theorem changed_ (a b : Mp) (A B : Option Addr) (k j c d : Nat) (ha : Mr w a A k c) (hb : Mr w b B j d) : Calls Try.prog 27 #[mv a A k c, mv b B j d] w fun e w' => PAns w w' e (changedA a b) := by
  have hbx : Below w.heap.size w ((w.alloc (mo a A k c)).alloc (mo b B j d)) := ((Below.refl w.heap.size w).alloc (Nat.le_refl _) _).alloc (by simp) _
  have hk1 := (Blk.new w 26 #[.int .i64 a.v, .int .i64 a.n, .slice A k c] rfl).alloc (mo b B j d)
  have hk2 := Blk.new (w.alloc (mo a A k c)) 26 #[.int .i64 b.v, .int .i64 b.n, .slice B j d] (g := w.heap.size + 1) (by simp)
  have hma := ha.below hbx
  have hmb := hb.below hbx
  have hsz : ((w.alloc (mo a A k c)).alloc (mo b B j d)).heap.size = w.heap.size + 2 := by simp
  have han := ha.n
  have hbn := hb.n
  unfold I64 at han hbn
  simp only [mv]
  clear ha hb
  cases h1 : a.right with
  | false =>
    have HR := Lib.hid (changed_bad (a := a) (b := b) (.inl h1))
    go_enter Try.func27, Try.ntmps27
    go_wp2_with fail
    generalize ((w.alloc (mo a A k c)).alloc (mo b B j d)) = w1 at *
    refine (right_ _ a A k c hma).mono ?_
    rw [h1]
    rintro e w2 ⟨rfl, hb2⟩
    go_wp2
    go_ret2
    exact ⟨none, 0, 0, by rw [HR.out]; rfl, by rw [HR.out]; exact Ps.nil, by omega, below_step hbx hb2 (Nat.le_refl _)⟩
  | true =>
    cases h2 : b.right with
    | false =>
      have HR := Lib.hid (changed_bad (a := a) (b := b) (.inr (.inl h2)))
      go_enter Try.func27, Try.ntmps27
      go_wp2_with fail
      generalize ((w.alloc (mo a A k c)).alloc (mo b B j d)) = w1 at *
      refine (right_ _ a A k c hma).mono ?_
      rw [h1]
      rintro e w2 ⟨rfl, hb2⟩
      obtain ⟨m0, m1, m2, -, -, -⟩ := cells3 (hk2.keep hb2)
      go_wp2_with fail
      refine (right_ _ b B j d (hmb.below hb2)).mono ?_
      rw [h2]
      rintro e w3 ⟨rfl, hb3⟩
      go_wp2
      go_ret2
      exact ⟨none, 0, 0, by rw [HR.out]; rfl, by rw [HR.out]; exact Ps.nil, by omega, below_step (below_step hbx hb2 (Nat.le_refl _)) hb3 (Nat.le_refl _)⟩
    | true =>
      by_cases h3 : a.n = b.n
      · have t3 : (a.n != b.n) = false := by simp [h3]
        have HR := Lib.hid (changed_ok h1 h2 h3)
        obtain ⟨N, hN⟩ := Int.eq_ofNat_of_zero_le (show 0 ≤ a.n by have := (right_is h1).2.1; omega)
        have hN2 : N ≤ 1024 := by have := (right_is h1).2.1; omega
        have hlb := own_len (right_is h2).2.2.2
        have HN := Lib.hid hN
        have HNb := Lib.hid (show b.n = (N : Int) by rw [← h3]; exact hN)
        have HT := Lib.hid (show a.n.toNat = N by rw [hN]; rfl)
        have Hlb := Lib.hid (show (own b.ps).length = N by omega)
        have hg64 : ∀ q, q < N → I64 (nodeF b q) := fun q hq => by
          have := node_in h2 (k := q) (by rw [HNb.out]; omega)
          unfold I64
          omega
        have Hg := Lib.hid hg64
        clear hN hlb h3 hg64
        go_enter Try.func27, Try.ntmps27
        go_wp2_with fail
        generalize ((w.alloc (mo a A k c)).alloc (mo b B j d)) = w1 at *
        refine (right_ _ a A k c hma).mono ?_
        rw [h1]
        rintro e w2 ⟨rfl, hb2⟩
        replace hk1 := hk1.keep hb2
        replace hk2 := hk2.keep hb2
        replace hma := hma.below hb2
        replace hmb := hmb.below hb2
        replace hbx := below_step hbx hb2 (Nat.le_refl _)
        obtain ⟨m0, m1, m2, -, -, -⟩ := cells3 hk2
        clear hb2
        go_wp2_with fail
        refine (right_ _ b B j d hmb).mono ?_
        rw [h2]
        rintro e w3 ⟨rfl, hb2⟩
        replace hk1 := hk1.keep hb2
        replace hk2 := hk2.keep hb2
        replace hma := hma.below hb2
        replace hmb := hmb.below hb2
        replace hbx := below_step hbx hb2 (Nat.le_refl _)
        clear hb2 m0 m1 m2
        obtain ⟨m0, m1, m2, -, -, -⟩ := cells3 hk2
        obtain ⟨n0, n1, n2, -, -, -⟩ := cells3 hk1
        go_wp2_with fail
        clear m0 m1 m2 n0 n1 n2
        have t1 : w3.cell? ⟨w.heap.size, 0, none⟩ = some (.int .i64 a.v) ∧ w3.cell? ⟨w.heap.size, 1, none⟩ = some (.int .i64 a.n) ∧ w3.cell? ⟨w.heap.size, 2, none⟩ = some (.slice A k c) := ⟨(cells3 hk1).1, (cells3 hk1).2.1, (cells3 hk1).2.2.1⟩
        have t2 : w3.cell? ⟨w.heap.size + 1, 0, none⟩ = some (.int .i64 b.v) ∧ w3.cell? ⟨w.heap.size + 1, 1, none⟩ = some (.int .i64 b.n) ∧ w3.cell? ⟨w.heap.size + 1, 2, none⟩ = some (.slice B j d) := ⟨(cells3 hk2).1, (cells3 hk2).2.1, (cells3 hk2).2.2.1⟩
        have hz0 := below_drew0 w3
        go_region_held3 (fun w' => (w'.cell? ⟨w.heap.size, 0, none⟩ = some (.int .i64 a.v) ∧ w'.cell? ⟨w.heap.size, 1, none⟩ = some (.int .i64 a.n) ∧ w'.cell? ⟨w.heap.size, 2, none⟩ = some (.slice A k c)) ∧ (w'.cell? ⟨w.heap.size + 1, 0, none⟩ = some (.int .i64 b.v) ∧ w'.cell? ⟨w.heap.size + 1, 1, none⟩ = some (.int .i64 b.n) ∧ w'.cell? ⟨w.heap.size + 1, 2, none⟩ = some (.slice B j d)))
          (first | exact ⟨t1, t2⟩ | exact ⟨cells3_keep t1 hz2, cells3_keep t2 hz2⟩ | exact ⟨cells3_keep t1 hz1, cells3_keep t2 hz1⟩ | go_keep)
          (first
            | (go_at_call 42
               have hprev := hz1
               refine (owners_ _ b B j d (hmb.below hz1) h2).mono ?_
               rintro e q2 ⟨B2, nb, cb, rfl, ob, hnb, hq⟩
               have Hnb := Lib.hid hnb
               clear hnb
               have hz2 : Below w3.heap.size w3 q2 := below_step hz1 hq (Nat.le_refl _)
               have rb := rd_own ob
               have ra := Rd.below ra1 hq)
            | (go_at_call 42
               refine (owners_ _ a A k c (hma.below hz0) h1).mono ?_
               rintro e q1 ⟨A1, na, ca, rfl, oa, -, hq⟩
               have hz1 : Below w3.heap.size w3 q1 := below_step hz0 hq (Nat.le_refl _)
               have ra1 := rd_own oa))
        have hnN : nb = N := by rw [Hnb.out]; exact Hlb.out
        subst hnN
        have hbx2 := below_step hbx hz2 (Nat.le_refl _)
        clear t1 t2 hz0 hz1 hz2 hk1 hk2 hma hmb hbx oa ob ra1 Hnb hprev
        go_wp2_with fail
        go_loopw [8, 32] (fun vv iv wr => ∃ i : Nat, i ≤ nb ∧ iv = .int .i64 (i : Int) ∧ Po wr q2.heap.size vv (chg (nodeF a) (nodeF b) i).length (chg (nodeF a) (nodeF b) i) ∧ Below q2.heap.size q2 wr) (fun _ iv _ => nb - (intOf iv).toNat)
        case atStart => exact ⟨0, Nat.zero_le _, rfl, po_nil _ _, Below.refl _ _⟩
        case round =>
          obtain ⟨i, hi, rfl, hown, hB⟩ := hrel
          by_cases hlt : i < nb
          · have hil : (i : Int) < (nb : Int) := by omega
            have hi0 : (0 : Int) ≤ (i : Int) := by omega
            obtain ⟨hka, b1, o1, rfl, ca1⟩ := own_cell h1 (Rd.below ra hB) (k := i) (by rw [HN.out]; omega)
            obtain ⟨hkb, b2, o2, rfl, cb1⟩ := own_cell h2 (Rd.below rb hB) (k := i) (by rw [HNb.out]; omega)
            have hka' : (i : Int) < (na : Int) := by omega
            by_cases he : nodeF b i = nodeF a i
            · have te : (nodeF b i != nodeF a i) = false := by simp [he]
              have hE : chg (nodeF a) (nodeF b) (i + 1) = chg (nodeF a) (nodeF b) i := by rw [chg, if_pos he]
              have hown2 := hown
              rw [← hE] at hown2
              clear he hown hE
              go_wp2
              go_roundw
              case rel => exact ⟨i + 1, by omega, by go_num, hown2, hB⟩
              case measure => simp [intOf]; omega
            · have te : (nodeF b i != nodeF a i) = true := by simp [he]
              have HC := Lib.hid (show pushC (chg (nodeF a) (nodeF b) i) (i : Int) (nodeF b i) = chg (nodeF a) (nodeF b) (i + 1) by rw [chg, if_neg he])
              have hfit := chg_fit (f := nodeF a) (g := nodeF b) (k := i) (by omega) (fun q hq => Hg.out q (by omega))
              have hnd := Hg.out i hlt
              clear he
              go_wp2_with fail
              refine (join_ _ q2.heap.size _ _ _ (i : Int) (nodeF b i) hown hB.size (by omega) hfit.1 hi0 (by omega) hnd hfit.2.1).mono ?_
              rw [HC.out]
              rintro e w5 ⟨v5, rfl, hown5, hg5, -⟩
              have hB5 : Below q2.heap.size q2 w5 := hB.grown hg5 hB.size (own_from hown)
              clear hown hB hfit
              go_wp2
              go_roundw
              case rel => exact ⟨i + 1, by omega, by go_num, hown5, hB5⟩
              case measure => simp [intOf]; omega
          · have hin : i = nb := by omega
            subst hin
            have hin : ¬ (i : Int) < (i : Int) := by omega
            have hfit := chg_fit (f := nodeF a) (g := nodeF b) (k := i) (by omega) (fun q hq => Hg.out q hq)
            obtain ⟨A5, c5, rfl, -, -, -⟩ := own_form hown
            have hps := po_ps hown hfit.2.1
            have Hlen := Lib.hid hfit.2.2
            clear hfit hown
            go_wp2
            go_ret2
            exact ⟨A5, _, c5, by rw [HR.out]; rfl, by rw [HR.out, HT.out]; exact hps, by have := Hlen.out; omega, below_step hbx2 hB (Nat.le_refl _)⟩
      · have t3 : (a.n != b.n) = true := by simp [h3]
        have HR := Lib.hid (changed_bad (a := a) (b := b) (.inr (.inr h3)))
        clear h3
        go_enter Try.func27, Try.ntmps27
        go_wp2_with fail
        generalize ((w.alloc (mo a A k c)).alloc (mo b B j d)) = w1 at *
        refine (right_ _ a A k c hma).mono ?_
        rw [h1]
        rintro e w2 ⟨rfl, hb2⟩
        obtain ⟨m0, m1, m2, -, -, -⟩ := cells3 (hk2.keep hb2)
        go_wp2_with fail
        refine (right_ _ b B j d (hmb.below hb2)).mono ?_
        rw [h2]
        rintro e w3 ⟨rfl, hb3⟩
        clear m0 m1 m2
        obtain ⟨m0, m1, m2, -, -, -⟩ := cells3 ((hk2.keep hb2).keep hb3)
        obtain ⟨n0, n1, n2, -, -, -⟩ := cells3 ((hk1.keep hb2).keep hb3)
        go_wp2
        go_ret2
        exact ⟨none, 0, 0, by rw [HR.out]; rfl, by rw [HR.out]; exact Ps.nil, by omega, below_step (below_step hbx hb2 (Nat.le_refl _)) hb3 (Nat.le_refl _)⟩
end
end Sma
end Go.Proofs.Ytncapionioeieaa
