/- Layer 14: the document's Nodes; which ints are the same. -/
import Derived.Test.YtdcggnfplfgcnaaPlaU
set_option linter.all false
namespace Go.Proofs.Ytdcggnfplfgcnaa
open Go.RowKit
namespace Pla
open Blo (I64 Dat Sml FitB Opl dat_own ns_get cons_eq cons_ne drop_of)
open Sma (Pc Mp Mr mv runB run_mem Is ivs ivs_length ivs_app ivs_one)

def isT : Value → Bool
  | .bool b => b
  | _ => false
theorem nds_at {L : List (Pt × Value)} {i : Nat} {q : Pt} {d : Value} (h : L[i]? = some (q, d)) : (ndsL L)[i]? = some q.nd := by simp [ndsL, h]
section
variable (w : World)
set_option maxRecDepth 100000 in
set_option maxHeartbeats 4000000 in
theorem rnodes_ (A : Option Addr) (n c : Nat) (L : List (Pt × Value)) (h : Ptl w A n L) (hn : n ≤ 1000000) :
    Calls Try.prog 28 #[.slice A n c] w fun e w' => ∃ A' k c', e = .returned (.slice A' k c') ∧ w'.ownsRow w.heap.size 3 1 (.slice A' k c') k (ivs (nodesA (ndsL L))) ∧ Below w.heap.size w w' := by
  obtain ⟨i0, hi0', hz0, hz1, hz2⟩ := int_info
  have Hz := Lib.hid hz2
  have Hl := Lib.hid h.len
  clear hz2
  have HnL : Hid ((ndsL L).length = n) := Lib.hid (by rw [ndsL, List.length_map, Hl.out])
  go_enter Try.func28, Try.ntmps28
  go_wp2_with fail
  go_loopw [3, 4, 5] (fun vv lv av wr => ∃ (k : Nat) (last : Int) (any : Bool) (out : List Int), lv = .int .i64 last ∧ av = .bool any ∧ I64 last ∧ k = out.length ∧ k + leftN (ndsL L) any last ≤ n + 1 ∧ Out (ndsL L) any last out ∧ wr.ownsRow w.heap.size 3 1 vv k (ivs out) ∧ Below w.heap.size w wr) (fun _ lv av _ => leftN (ndsL L) (isT av) (intOf lv))
  case atStart => exact ⟨0, 0, false, [], rfl, rfl, by unfold I64; omega, rfl, by unfold leftN; simp [HnL.out], out_start _, own_nil _ _ _ _, Below.refl _ _⟩
  case round =>
    obtain ⟨k, last, any, out, rfl, rfl, hlI, hk, hkn, hO, hown, hb⟩ := hrel
    have Hk := Lib.hid hk
    unfold I64 at hlI
    clear hk
    obtain ⟨wo, rfl⟩ : ∃ wo : World, wo = wr := ⟨_, rfl⟩
    have hp := h.below hb
    go_wp2_with fail
    go_loopw [6, 7, 8] (fun nv fv iv wx => ∃ (i : Nat) (nx : Int) (fd : Bool), i ≤ n ∧ iv = .int .i64 (i : Int) ∧ nv = .int .i64 nx ∧ fv = .bool fd ∧ I64 nx ∧ Inn (ndsL L) any last i nx fd ∧ wx = wo) (fun _ _ iv _ => n - (intOf iv).toNat)
    case atStart => exact ⟨0, 0, false, Nat.zero_le _, rfl, rfl, rfl, by unfold I64; omega, inn_start _ _ _, rfl⟩
    case round =>
      obtain ⟨i, nx, fd, hi, rfl, rfl, rfl, hxI, hI, rfl⟩ := hrel
      unfold I64 at hxI
      by_cases hlt : i < n
      · have hil : (i : Int) < (n : Int) := by omega
        have hi0 : (0 : Int) ≤ (i : Int) := by omega
        obtain ⟨p, o, x, X, xm, xc, rfl, hx, -, hnd, -, c0, c1, c2, c3, c4, c5⟩ := hp.at_ hlt
        have hat := nds_at hx
        have hndI := hnd
        unfold I64 at hnd
        clear hx
        by_cases hc : cand any last x.nd
        · have hca := hc
          unfold cand at hca
          by_cases hf : fd = false ∨ x.nd < nx
          · have HI := Lib.hid (inn_take hI hat hc hf)
            clear hI hat hc
            rcases fd with _ | _
            · clear hf
              rcases any with _ | _
              · clear hca
                go_wp2
                go_roundw
                case rel => exact ⟨i + 1, x.nd, true, by omega, by go_num, rfl, rfl, hndI, HI.out, trivial⟩
                case measure => simp [intOf]; omega
              · have hca2 : last < x.nd := by rcases hca with e | e; cases e; exact e
                clear hca
                go_wp2
                go_roundw
                case rel => exact ⟨i + 1, x.nd, true, by omega, by go_num, rfl, rfl, hndI, HI.out, trivial⟩
                case measure => simp [intOf]; omega
            · have hf2 : x.nd < nx := by rcases hf with e | e; cases e; exact e
              clear hf
              rcases any with _ | _
              · clear hca
                go_wp2
                go_roundw
                case rel => exact ⟨i + 1, x.nd, true, by omega, by go_num, rfl, rfl, hndI, HI.out, trivial⟩
                case measure => simp [intOf]; omega
              · have hca2 : last < x.nd := by rcases hca with e | e; cases e; exact e
                clear hca
                go_wp2
                go_roundw
                case rel => exact ⟨i + 1, x.nd, true, by omega, by go_num, rfl, rfl, hndI, HI.out, trivial⟩
                case measure => simp [intOf]; omega
          · have hfd : fd = true := by cases fd; exact absurd (.inl rfl) hf; rfl
            have hnn : ¬ x.nd < nx := fun e => hf (.inr e)
            subst hfd
            have HI := Lib.hid (inn_skip hI hat (.inr ⟨rfl, by omega⟩))
            clear hI hat hc hf
            rcases any with _ | _
            · clear hca
              go_wp2
              go_roundw
              case rel => exact ⟨i + 1, nx, true, by omega, by go_num, rfl, rfl, hxI, HI.out, trivial⟩
              case measure => simp [intOf]; omega
            · have hca2 : last < x.nd := by rcases hca with e | e; cases e; exact e
              clear hca
              go_wp2
              go_roundw
              case rel => exact ⟨i + 1, nx, true, by omega, by go_num, rfl, rfl, hxI, HI.out, trivial⟩
              case measure => simp [intOf]; omega
        · have hany : any = true := by cases any; exact absurd (.inl rfl) hc; rfl
          have hnl : ¬ last < x.nd := fun e => hc (.inr e)
          subst hany
          have HI := Lib.hid (inn_skip hI hat (.inl hc))
          clear hI hat hc
          go_wp2
          go_roundw
          case rel => exact ⟨i + 1, nx, fd, by omega, by go_num, rfl, rfl, hxI, HI.out, trivial⟩
          case measure => simp [intOf]; omega
      · have hin : i = n := by omega
        subst hin
        have hnn : ¬ (i : Int) < (i : Int) := by omega
        rw [← HnL.out] at hI
        rcases fd with _ | _
        · have HD := Lib.hid (out_done hO hI)
          obtain ⟨A', c', rfl, -, -, -⟩ := own_form hown
          clear hI hO
          go_wp2
          go_ret
          rw [← HD.out]
          exact ⟨A', k, c', rfl, hown, hb⟩
        · obtain ⟨hN, hmem, hls⟩ := out_next hO hI
          have hles := left_less hmem hls
          have hba : Below wr.heap.size wr (wr.alloc (.cells #[.int .i64 nx] 3)) := (Below.refl _ _).alloc (Nat.le_refl _) _
          have hrd : Rd (wr.alloc (.cells #[.int .i64 nx] 3)) (some ⟨wr.heap.size, 0, none⟩) 1 1 [.int .i64 nx] := by
            have := Rd.new wr #[.int .i64 nx] 3 (0, 0) (sz := 1) (n := 1) (by simp)
            simpa using this
          have howna := own_keep hown hba
          have hB := below_step hb hba (Nat.le_refl _)
          have hmx : k + 1 ≤ maxLen := by unfold maxLen; omega
          have hby : (k + 1) * 8 ≤ 140737488355328 := by omega
          have hbs := hB.size
          have hone : ∀ u ∈ [Value.int .i64 nx], u.oneCell' = true := by intro u hu; rw [List.mem_singleton.1 hu]; rfl
          have HE := Lib.hid (show ivs (out ++ [nx]) = ivs out ++ [.int .i64 nx] by rw [ivs_app]; rfl)
          have HK := Lib.hid (show k + 1 = (out ++ [nx]).length by rw [List.length_append, ← Hk.out]; rfl)
          have HLE := Lib.hid hles
          have HKN := Lib.hid (show k + 1 + leftN (ndsL L) true nx ≤ i + 1 by omega)
          clear hI hO hown hb hba hls hmem hles
          go_wp2_with (first
            | (at_builtin
               go_must (refine wpList_app _ rfl (.tmp 41) (.tmp 43) _ rfl w.heap.size 3 i0 _ 1 8 Try.underlying60 hi0' hz0 hz1 Hz.out rfl Nat.one_pos _ k _ rfl howna (some ⟨wr.heap.size, 0, none⟩) 1 1 [.int .i64 nx] rfl (fun h => some_ne h) hrd hone hmx hby hbs ?_)
               intro v3 w3 hown3 hg3 hat3
               rw [← HE.out] at hown3
               have hB3 : Below w.heap.size w w3 := hB.grown hg3 hbs (fun j hj => (howna.lt j hj).1)
               clear hg3 hat3 howna)
            | fail)
          go_roundw
          case rel => exact ⟨k + 1, nx, true, out ++ [nx], rfl, rfl, hxI, HK.out, HKN.out, hN, hown3, hB3⟩
          case measure => exact HLE.out
end
end Pla
end Go.Proofs.Ytdcggnfplfgcnaa
