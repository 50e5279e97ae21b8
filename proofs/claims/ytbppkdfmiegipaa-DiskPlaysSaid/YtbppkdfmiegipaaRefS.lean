/- The document's disk: Start. -/
import Derived.Test.YtbppkdfmiegipaaRefF
namespace Go.Proofs.Ytbppkdfmiegipaa
open Go.RowKit Go.Maps

/-- What a Start has come to, ahead of sector i. -/
def rousing (s : DS) (ks : List Bool) (i : Nat) : DS := { s with plate := waking s ks i, cache := fun j => if j < i then none else s.cache j }
theorem rk_rouse_none {w : World} {G : RG} {s : DS} {ks : List Bool} {i : Nat} (h : Rk w G (rousing s ks i)) (hc : s.cache i = none) : Rk w G (rousing s ks (i + 1)) :=
  h.congr rfl (fun j _ => waking_same (by simp [DS.woken, hc]) j) (fun j _ => by
    simp only [rousing]
    by_cases h1 : j < i
    · rw [if_pos h1, if_pos (by omega)]
    · rw [if_neg h1]
      by_cases h2 : j = i
      · subst h2; rw [if_pos (by omega), hc]
      · rw [if_neg (by omega)]) rfl rfl
theorem rk_rouse_some {w w' : World} {G : RG} {s : DS} {ks : List Bool} {i : Nat} (h : Rk w G (rousing s ks i)) (hi : i < s.n) {x : List UInt8} (hx : s.woken ks i = x) {v : Value} (hw : Wrote w w' G i v) (hv : Sec w G v x) : Rk w' G (rousing s ks (i + 1)) :=
  (rk_turn h hi hw hv).congr rfl (fun j _ => waking_put hx j) (fun j _ => by
    simp only [rousing]
    by_cases h2 : j = i
    · subst h2; rw [put_same, if_pos (by omega)]
    · rw [put_other _ _ h2]
      by_cases h1 : j < i
      · rw [if_pos h1, if_pos (by omega)]
      · rw [if_neg h1, if_neg (by omega)]) rfl rfl

section
variable (G : RG) (s : DS)
set_option maxRecDepth 100000 in
theorem rstart_on (v : Value) (w : World) (h : Rk w G s) (ho : s.on = true) :
    Calls Try.prog 24 #[.pointer (some ⟨G.rb, 0, none⟩), v] w fun e w' => e = .returned (.int .i64 11) ∧ w = w' := by
  have c3 := h.self.cell (j := 3) (u := .bool s.on) rfl
  rw [ho] at c3
  clear ho
  go_enter Try.func24, Try.ntmps24
  go_wp2
  go_ret
  exact ⟨rfl, rfl⟩
set_option maxRecDepth 100000 in
set_option maxHeartbeats 2000000 in
theorem rstart_off (A : Option Addr) (n c : Nat) (ks : List Bool) (w : World) (h : Rk w G s) (hk : Bls w A n ks) (hc : n ≤ 9223372036854775807) (hX : ∀ a, A = some a → 0 < n → a.block < G.lo ∨ G.rb < a.block) (ho : s.on = false) :
    Calls Try.prog 24 #[.pointer (some ⟨G.rb, 0, none⟩), .slice A n c] w fun e w' => e = .returned (.int .i64 0) ∧ Rk w' G { s with plate := s.woken ks, cache := fun _ => none, on := true, fuse := -1 } ∧ Tn G.lo (G.rb + 1) w w' := by
  have c3 := h.self.cell (j := 3) (u := .bool s.on) rfl
  rw [ho] at c3
  have hap := h.apart
  have hmost := h.most
  have hcaps := h.caps
  have n1 : G.pb ≠ G.rb := by have := hap.p; omega
  have n2 : G.qb ≠ G.rb := by have := hap.q; omega
  have n3 : G.pb ≠ G.cb := hap.pc
  have n4 : G.qb ≠ G.cb := hap.cq.symm
  have n5 : G.pb ≠ G.qb := hap.pq
  have hlo := hap.p
  have hf0 : Rk w G (rousing s ks 0) := h.congr rfl (fun j _ => by simp [rousing, waking]) (fun j _ => by simp [rousing]) rfl rfl
  clear ho
  go_enter Try.func24, Try.ntmps24
  go_wp2_with fail
  go_loopw [5, 6] (fun kv iv wr => ∃ i : Nat, i ≤ s.n ∧ iv = .int .i64 (i : Int) ∧ kv = .int .i64 (cnt s.cache i : Int) ∧ Rk wr G (rousing s ks i) ∧ Tn G.lo (G.rb + 1) w wr) (fun _ iv _ => s.n - (intOf iv).toNat)
  case atStart => exact ⟨0, Nat.zero_le _, rfl, rfl, hf0, Tn.refl _ _ _⟩
  case round =>
    obtain ⟨i, hi, rfl, rfl, hr, ht⟩ := hrel
    clear hf0 h c3
    have c0 := hr.self.cell (j := 0) (u := .slice (some ⟨G.pb, 0, none⟩) s.n G.pc) rfl
    have c1 := hr.self.cell (j := 1) (u := .slice (some ⟨G.cb, 0, none⟩) s.n G.cc) rfl
    have c2 := hr.self.cell (j := 2) (u := .slice (some ⟨G.qb, 0, none⟩) s.n s.n) rfl
    by_cases hlt : i < s.n
    · have hil : (i : Int) < (s.n : Int) := by omega
      have hi0 : 0 ≤ (i : Int) := by omega
      have hcs : (rousing s ks i).cache i = s.cache i := by simp [rousing]
      have hps : (rousing s ks i).plate i = s.plate i := by simp [rousing, waking]
      obtain ⟨cq, fq⟩ := hr.cached i hlt
      rw [hcs] at cq
      have hcl := cnt_le s.cache i
      cases hci : s.cache i with
      | none =>
        have hr2 := rk_rouse_none hr hci
        rw [hci] at cq
        have H1 := Lib.hid (show cnt s.cache (i + 1) = cnt s.cache i by simp [cnt, hci])
        clear hci hcs hps
        go_wp2_with fail
        go_roundw
        case rel => exact ⟨i + 1, by omega, by go_num, by rw [H1.out], hr2, ht⟩
        case measure => simp [intOf]; omega
      | some x =>
        obtain ⟨A', m, c', hcc, _, hsec⟩ := hr.cache i hlt
        obtain ⟨v0, hp0, fp, hsp⟩ := hr.plate i hlt
        have hsec2 := hsec x (by rw [hcs]; exact hci)
        rw [hps] at hsp
        rw [hci] at cq
        have H1 := Lib.hid (show cnt s.cache (i + 1) = cnt s.cache i + 1 by simp [cnt, hci])
        by_cases hkn : cnt s.cache i < n
        · obtain ⟨bk, ok, rfl, hck0⟩ := hk.at_ hkn
          have hXk := hX _ rfl (by omega)
          simp only at hXk
          have hck : wr.cell? ⟨bk, ok + cnt s.cache i, none⟩ = _ := ht.cell hck0 (by simp; omega)
          have hkni : (cnt s.cache i : Int) < (n : Int) := by omega
          cases hkk : ks.getD (cnt s.cache i) false with
          | false =>
            rw [hkk] at hck
            have hr2 := rk_rouse_some (x := s.plate i) hr hlt (by simp only [DS.woken, hci, hkk]; rfl) (Wrote.q hap hp0 cq) hsp
            have ht2 := ht.trans (Wrote.q (i := i) (v := v0) hap hp0 cq).tn
            clear hci hkk hk hck0 hcs hps hsec
            generalize cnt s.cache i = ci at *
            go_wp2_with fail
            go_roundw
            case rel => exact ⟨i + 1, by omega, by go_num, by rw [H1.out]; go_num, hr2, ht2⟩
            case measure => simp [intOf]; omega
          | true =>
            rw [hkk] at hck
            have hr2 := rk_rouse_some (x := x) hr hlt (by simp only [DS.woken, hci, hkk]; rfl) (Wrote.pq (v := .slice A' m c') hap hp0 cq) hsec2
            have ht2 := ht.trans (Wrote.pq (i := i) (v := .slice A' m c') hap hp0 cq).tn
            have d0 : wr.drew.cell? ⟨G.rb, 0, none⟩ = some (.slice (some ⟨G.pb, 0, none⟩) s.n G.pc) := c0
            have d1 : wr.drew.cell? ⟨G.rb, 1, none⟩ = some (.slice (some ⟨G.cb, 0, none⟩) s.n G.cc) := c1
            have d3 : wr.drew.cell? ⟨G.cb, i, none⟩ = some (.slice A' m c') := hcc
            have c2' := cell_far (i := i) (u := .slice A' m c') c2 n1
            have cq' := cell_far (i := i) (u := .slice A' m c') cq n5
            clear hci hkk hk hck0 hcs hps hsec
            generalize cnt s.cache i = ci at *
            go_wp2_with fail
            go_region_held3 (fun w' => w'.cell? ⟨G.rb, 0, none⟩ = some (.slice (some ⟨G.pb, 0, none⟩) s.n G.pc) ∧ w'.cell? ⟨G.rb, 1, none⟩ = some (.slice (some ⟨G.cb, 0, none⟩) s.n G.cc) ∧ w'.cell? ⟨G.cb, i, none⟩ = some (.slice A' m c'))
              (first
                | exact ⟨d0, d1, d3⟩
                | exact ⟨cell_far d0 n1, cell_far d1 n1, cell_far d3 n3⟩)
              (first | fail)
            go_wp2_with fail
            go_roundw
            case rel => exact ⟨i + 1, by omega, by go_num, by rw [H1.out]; go_num, hr2.drew, ht2.drewR⟩
            case measure => simp [intOf]; omega
        · have hkni : (n : Int) ≤ (cnt s.cache i : Int) := by omega
          have hr2 := rk_rouse_some (x := s.plate i) hr hlt (by
            have : ks.getD (cnt s.cache i) false = false := by
              rw [List.getD_eq_getElem?_getD, List.getElem?_eq_none (by rw [← hk.len]; omega)]; rfl
            simp only [DS.woken, hci, this]; rfl) (Wrote.q hap hp0 cq) hsp
          have ht2 := ht.trans (Wrote.q (i := i) (v := v0) hap hp0 cq).tn
          clear hci hkn hk hcs hps hsec
          generalize cnt s.cache i = ci at *
          go_wp2_with fail
          go_roundw
          case rel => exact ⟨i + 1, by omega, by go_num, by rw [H1.out]; go_num, hr2, ht2⟩
          case measure => simp [intOf]; omega
    · have hin : (s.n : Int) ≤ (i : Int) := by omega
      have hre : Rk wr G { s with plate := s.woken ks, cache := fun _ => none } := hr.congr rfl (fun j hj => by
        have : j < i := by have : j < s.n := hj; omega
        simp only [rousing, waking]; rw [if_pos this]) (fun j hj => by
        have : j < i := by have : j < s.n := hj; omega
        simp only [rousing]; rw [if_pos this]) rfl rfl
      have c3' := hr.self.cell (j := 3) (u := .bool s.on) rfl
      have c4' := hr.self.cell (j := 4) (u := .int .i64 (max s.fuse (-1))) rfl
      have f3' := hr.self.free 3
      have f4' := hr.self.free 4
      go_wp2
      have ht5 : Tn G.rb (G.rb + 1) wr ((wr.setCell ⟨G.rb, 3, none⟩ (.bool true)).setCell ⟨G.rb, 4, none⟩ (.int .i64 (-1))) := (Tn.set _ _ _ (Nat.le_refl _) (Nat.lt_succ_self _)).trans (Tn.set _ _ _ (Nat.le_refl _) (Nat.lt_succ_self _))
      go_ret
      exact ⟨rfl, hre.cells ht5 true (-1) ((hre.self.setCell 3 (.bool true)).setCell 4 (.int .i64 (-1))) (by decide), ht.trans (ht5.wide (by omega) (Nat.le_refl _))⟩

/-- Start. -/
theorem rstart_ (A : Option Addr) (n c : Nat) (ks : List Bool) (w : World) (h : Rk w G s) (hk : Bls w A n ks) (hc : n ≤ 9223372036854775807) (hX : ∀ a, A = some a → 0 < n → a.block < G.lo ∨ G.rb < a.block) :
    Calls Try.prog 24 #[.pointer (some ⟨G.rb, 0, none⟩), .slice A n c] w fun e w' => e = .returned (.int .i64 ((s.start ks).1 : Int)) ∧ Rk w' G (s.start ks).2 ∧ Tn G.lo (G.rb + 1) w w' := by
  unfold DS.start
  cases ho : s.on with
  | true =>
    rw [if_pos rfl]
    refine (rstart_on G s _ w h ho).mono ?_
    rintro e w' ⟨rfl, rfl⟩
    exact ⟨rfl, h, Tn.refl _ _ _⟩
  | false => rw [if_neg (by simp)]; exact rstart_off G s A n c ks w h hk hc hX ho
end
end Go.Proofs.Ytbppkdfmiegipaa
