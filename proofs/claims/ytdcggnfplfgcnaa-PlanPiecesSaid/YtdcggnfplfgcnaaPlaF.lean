/- Layer 14: the document's parts, Ops, Reads. -/
import Derived.Test.YtdcggnfplfgcnaaPlaE
set_option linter.all false
namespace Go.Proofs.Ytdcggnfplfgcnaa
open Go.RowKit
namespace Pla
open Blo (I64 Dat Sml FitB dat_own)
open Sma (Pc Mp Mr mv runB run_mem)

section
variable (w : World)
set_option maxRecDepth 100000 in
set_option maxHeartbeats 2000000 in
theorem rparts_ (m : Mp) (A : Option Addr) (k c : Nat) (h : Mr w m A k c) (hr : m.right = true) (o : BOp) (X : Option Addr) (mm cc : Nat) (hd : Dat w o X mm cc) (n : Int) (hn : o.kind = 1 → n = (o.data.length : Int)) (h0 : 0 ≤ o.off) (h1 : 1 ≤ n) (h2 : o.off + n ≤ 1024) :
    Calls Try.prog 41 #[mv m A k c, oa o (.slice X mm cc), .int .i64 n] w fun e w' => PartsAns w w' e 85 (partsL o n 0 m.ps) := by
  obtain ⟨i0, hi0', hz0, hz1, hz2⟩ := rpt_info
  have Hz := Lib.hid hz2
  clear hz2
  obtain ⟨hvv, hnn, hk16, hrun⟩ := Sma.right_is hr
  have hmem := Lib.hid (fun p hp => run_mem hrun p hp)
  have hlen := h.len
  have Hlen := Lib.hid hlen
  have hk : k ≤ 16 := by omega
  have hb1 := (Below.refl w.heap.size w).alloc (Nat.le_refl _) (rmo m A k c)
  have hb2 : Below w.heap.size w ((w.alloc (rmo m A k c)).alloc (oo o (.slice X mm cc))) := hb1.alloc (by simp) _
  have hm2 := (h.alloc (rmo m A k c)).alloc (oo o (.slice X mm cc))
  have hd2 := dat_alloc (dat_alloc hd (rmo m A k c)) (oo o (.slice X mm cc))
  have k1 : Blk ((w.alloc (rmo m A k c)).alloc (oo o (.slice X mm cc))) w.heap.size 24 #[.int .i64 m.v, .int .i64 m.n, .slice A k c] := (Blk.new w _ _ rfl).alloc _
  have k2 : Blk ((w.alloc (rmo m A k c)).alloc (oo o (.slice X mm cc))) (w.heap.size + 1) 27 #[.int .i64 o.kind, .int .i64 o.off, .int .i64 o.len, .slice X mm cc] := Blk.new _ _ _ (by simp)
  have hsz2 := hb2.size
  have hwx : IntKind.i64.wrap (o.off + n) = o.off + n := by rw [IntKind.wrap_i64]; omega
  have hp2 := hm2.ps
  obtain ⟨fk, fo, fl⟩ := hd.fit.all
  clear h hlen hk16 hrun hb1 hd hm2
  go_enter Try.func41, Try.ntmps41
  go_wp2_with fail
  generalize ((w.alloc (rmo m A k c)).alloc (oo o (.slice X mm cc))) = w2 at *
  go_loopw [7, 8] (fun vv iv wr => ∃ (i N : Nat) (L : List (Pt × Value)), i ≤ k ∧ N ≤ i ∧ iv = .int .i64 (i : Int) ∧ Pl wr w2.heap.size 85 vv N L ∧ L.map Prod.fst ++ partsL o n i (m.ps.drop i) = partsL o n 0 m.ps ∧ Below w2.heap.size w2 wr) (fun _ iv _ => k - (intOf iv).toNat)
  case atStart => exact ⟨0, 0, [], Nat.zero_le _, Nat.le_refl _, rfl, Pl.nil _ _ _, rfl, Below.refl _ _⟩
  case round =>
    obtain ⟨i, N, L, hi, hN, rfl, hPl, hL, hb⟩ := hrel
    obtain ⟨m0, m1, m2, -, -, -⟩ := Sma.cells3 (k1.keep hb)
    obtain ⟨n0, n1, n2, n3, -, -, -, -⟩ := cells4 (k2.keep hb)
    by_cases hlt : i < k
    · have hil : (i : Int) < (k : Int) := by omega
      have hi0 : (0 : Int) ≤ (i : Int) := by omega
      obtain ⟨b, q, rfl, p, hx, fp, b0, b1, b2⟩ := hp2.at_ hlt
      have c0 := (hb.cell (cell_lt b0)).trans b0
      have c1 := (hb.cell (cell_lt b1)).trans b1
      have c2 := (hb.cell (cell_lt b2)).trans b2
      have C2 := Lib.hid b2
      clear b0 b1 b2
      have hpm := hmem.out p (List.mem_of_getElem? hx)
      rw [Sma.drop_of hx] at hL
      obtain ⟨lo, hlo⟩ : ∃ lo, max p.fr o.off = lo := ⟨_, rfl⟩
      obtain ⟨hi2, hhi⟩ : ∃ hi2, min p.en (o.off + n) = hi2 := ⟨_, rfl⟩
      by_cases hlh : lo < hi2
      · rw [parts_yes hlo hhi hlh] at hL
        have HL := Lib.hid hL
        have e1 : o.off ≤ lo := by omega
        have e2 : hi2 ≤ o.off + n := by omega
        have hbs := hb.size
        have hmx : N + 1 ≤ maxLen := by unfold maxLen; omega
        have hby : (N + 1) * 64 ≤ 140737488355328 := by omega
        have hd3 := hd2.below hb
        clear hL hx hmem
        go_wp2_with fail
        go_region
        go_wp2_with fail
        go_region_held3 (fun w' => w'.cell? ⟨w.heap.size, 2, none⟩ = some (.slice (some ⟨b, q, none⟩) k c) ∧ w'.cell? ⟨b, q + i * 3 + 2, none⟩ = some (.int .i64 p.nd) ∧ w'.cell? ⟨w.heap.size + 1, 0, none⟩ = some (.int .i64 o.kind) ∧ w'.cell? ⟨w.heap.size + 1, 1, none⟩ = some (.int .i64 o.off) ∧ w'.cell? ⟨w.heap.size + 1, 2, none⟩ = some (.int .i64 o.len) ∧ w'.cell? ⟨w.heap.size + 1, 3, none⟩ = some (.slice X mm cc)) (first | exact ⟨m2, c2, n0, n1, n2, n3⟩ | exact q2 | exact q3 | go_keep)
          (first
            | (go_at_call 59
               refine (rcut_ _ o X mm cc (hd3.below (below_drewN (Below.refl _ _) 2)) n hn h0 h2 lo hi2 e1 e2 hlh).mono ?_
               rintro e w3 ⟨d, rfl, hO, hb2⟩
               have hb2' : Below wr.heap.size wr w3 := below_undrew (below_undrew hb2)
               have hO' : w3.ownsRow w2.heap.size 64 1 d (cutO o lo hi2).data.length (nvs (cutO o lo hi2).data) := hO.mono hbs
               have hB2 := below_step hb hb2' (Nat.le_refl _)
               obtain ⟨-, -, f2, -, -, -⟩ := Sma.cells3 (k1.keep hB2)
               obtain ⟨g0, g1, g2, g3, -, -, -, -⟩ := cells4 (k2.keep hB2)
               have q2 := And.intro f2 (And.intro ((hB2.cell (cell_lt C2.out)).trans C2.out) (And.intro g0 (And.intro g1 (And.intro g2 g3))))
               have hP2 := hPl.keep hb2'
               obtain ⟨Y, c', rfl, -, -, -⟩ := own_form hO'
               have hrd := rd_pt (w := w3) (q := ⟨(i : Int), p.nd, cutO o lo hi2⟩) (d := .slice Y (cutO o lo hi2).data.length c') (t := 85) rfl
               have hba2 : Below w3.heap.size w3 (w3.alloc (pto ⟨(i : Int), p.nd, cutO o lo hi2⟩ (.slice Y (cutO o lo hi2).data.length c') 85)) := (Below.refl _ _).alloc (Nat.le_refl _) _
               have hP3 := hP2.keep hba2
               have hO3 := own_keep hO' hba2
               have hB3 := below_step hB2 hba2 (Nat.le_refl _))
            | (refine step_app _ rfl (.tmp 41) (.tmp 54) _ rfl w2.heap.size 85 i0 _ 6 64 Try.underlying35 hi0' hz0 hz1 Hz.out rfl (Nat.zero_lt_succ 5) _ N _ rfl hP3.row (some ⟨w3.heap.size, 0, none⟩) 1 1 (pv ⟨(i : Int), p.nd, cutO o lo hi2⟩ (.slice Y (cutO o lo hi2).data.length c')) rfl (fun h => some_ne h) hrd (pv_one _ _ _ _) hmx hby hB3.size ?_
               intro v5 w5 hown5 hg5 hat5
               have hP5 := pl_push (by decide) hP3 hg5 hown5 hO3
               have hB5 : Below w2.heap.size w2 w5 := hB3.grown hg5 hB3.size (fun j hj => (hP3.row.lt j hj).1)
               obtain ⟨-, -, f3, -, -, -⟩ := Sma.cells3 (k1.keep hB5)
               obtain ⟨g4, g5, g6, g7, -, -, -, -⟩ := cells4 (k2.keep hB5)
               have q3 := And.intro f3 (And.intro ((hB5.cell (cell_lt C2.out)).trans C2.out) (And.intro g4 (And.intro g5 (And.intro g6 g7))))))
        clear hown5 hg5 hat5 hP3 hP2 hO3 hO' hO hrd q2 q3
        go_wp2
        go_roundw
        case rel => exact ⟨i + 1, N + 1, L ++ [(⟨(i : Int), p.nd, cutO o lo hi2⟩, .slice Y (cutO o lo hi2).data.length c')], by omega, by omega, by go_num, hP5, by rw [List.map_append, List.append_assoc]; exact HL.out, hB5⟩
        case measure => simp [intOf]; omega
      · rw [parts_no hlo hhi hlh] at hL
        have HL := Lib.hid hL
        clear hL hx
        go_wp2_with fail
        go_region
        go_wp2
        go_roundw
        case rel => exact ⟨i + 1, N, L, by omega, by omega, by go_num, hPl.keep (Below.refl _ _).drew, HL.out, hb.drew⟩
        case measure => simp [intOf]; omega
    · have hik : i = k := by omega
      subst hik
      have hin : ¬ (i : Int) < (i : Int) := by omega
      rw [List.drop_of_length_le (by rw [← Hlen.out]; exact Nat.le_refl _), parts_nil, List.append_nil] at hL
      have HL := Lib.hid hL
      clear hL
      obtain ⟨A', c', rfl, -, -, -⟩ := own_form hPl.row
      go_wp2
      go_ret
      exact ⟨A', N, c', L, rfl, hPl.mono hsz2, HL.out, below_step hb2 hb (Nat.le_refl _)⟩
end
end Pla
end Go.Proofs.Ytdcggnfplfgcnaa
