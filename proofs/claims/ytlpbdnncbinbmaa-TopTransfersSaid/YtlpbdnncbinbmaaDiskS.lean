/- Package disk's Start. -/
import Derived.Test.YtlpbdnncbinbmaaDiskF
namespace Go.Proofs.Ytlpbdnncbinbmaa
open Go.RowKit Go.Maps

/-- Booleans, read. -/
def Bls (w : World) (A : Option Addr) (n : Nat) (ks : List Bool) : Prop := Rd w A 1 n (ks.map Value.bool)
theorem Bls.len {w : World} {A : Option Addr} {n : Nat} {ks : List Bool} (h : Bls w A n ks) : n = ks.length := by have := h.1; simp at this; omega
theorem Bls.at_ {w : World} {A : Option Addr} {n : Nat} {ks : List Bool} (h : Bls w A n ks) {k : Nat} (hk : k < n) : ∃ b o, A = some ⟨b, o, none⟩ ∧ w.cell? ⟨b, o + k, none⟩ = some (.bool (ks.getD k false)) := by
  obtain ⟨b, o, e, hx, hc⟩ := Rd.at_ h hk
  refine ⟨b, o, e, ?_⟩
  rw [hc]
  simp only [List.getElem_map]
  rw [List.getD_eq_getElem?_getD, List.getElem?_eq_getElem]
  rfl

/-- What is on the disk when the first i sectors are woken. -/
def waking (s : DS) (ks : List Bool) (i j : Nat) : List UInt8 := if j < i then s.woken ks j else s.plate j
theorem waking_same {s : DS} {ks : List Bool} {i : Nat} (h : s.woken ks i = s.plate i) (j : Nat) : waking s ks i j = waking s ks (i + 1) j := by
  unfold waking
  by_cases h1 : j < i
  · rw [if_pos h1, if_pos (by omega)]
  · rw [if_neg h1]
    by_cases h2 : j = i
    · subst h2; rw [if_pos (by omega), h]
    · rw [if_neg (by omega)]
theorem waking_put {s : DS} {ks : List Bool} {i : Nat} {xs : List UInt8} (h : s.woken ks i = xs) (j : Nat) : (if j = i then xs else waking s ks i j) = waking s ks (i + 1) j := by
  unfold waking
  by_cases h2 : j = i
  · subst h2; rw [if_pos rfl, if_pos (by omega), h]
  · rw [if_neg h2]
    by_cases h1 : j < i
    · rw [if_pos h1, if_pos (by omega)]
    · rw [if_neg h1, if_neg (by omega)]

set_option maxRecDepth 100000 in
theorem start_on (g : Nat) (s : DS) (v : Value) (w : World) (h : Dk w g s) (ho : s.on = true) :
    Calls Try.prog 27 #[.pointer (some ⟨g + 2, 0, none⟩), v] w fun e w' => e = .returned (.int .i64 11) ∧ w = w' := by
  have c3 := h.self.cell (j := 3) (u := .bool s.on) rfl
  rw [ho] at c3
  clear ho
  go_enter Try.func27, Try.ntmps27
  go_wp2_with fail
  refine (made_ g s w h).mono ?_
  rintro e w' ⟨rfl, rfl⟩
  go_wp2
  go_ret
  exact ⟨rfl, rfl⟩

set_option maxRecDepth 100000 in
set_option maxHeartbeats 1000000 in
theorem start_off (g : Nat) (s : DS) (A : Option Addr) (n c : Nat) (ks : List Bool) (w : World) (h : Dk w g s) (hk : Bls w A n ks) (hc : n ≤ 9223372036854775807) (hX : ∀ a, A = some a → 0 < n → a.block < g ∨ g + 3 ≤ a.block) (ho : s.on = false) :
    Calls Try.prog 27 #[.pointer (some ⟨g + 2, 0, none⟩), .slice A n c] w fun e w' => e = .returned (.int .i64 0) ∧ Dk w' g { s with plate := s.woken ks, cache := fun _ => none, on := true, fuse := -1 } ∧ Tn g (g + 3) w w' := by
  have c1 := h.self.cell (j := 1) (u := .slice (some ⟨g, 0, none⟩) s.n s.n) rfl
  have c3 := h.self.cell (j := 3) (u := .bool s.on) rfl
  rw [ho] at c3
  obtain ⟨D, hD, hm⟩ := h.cache
  have hgl := h.lt
  have hmost := h.most
  have hleast := h.least
  clear ho
  go_enter Try.func27, Try.ntmps27
  go_wp2_with fail
  refine (made_ g s w h).mono ?_
  rintro e w' ⟨rfl, rfl⟩
  go_wp2_with fail
  have hp0 : PlateAt w g s.n (waking s ks 0) := h.plate.congr fun j _ => by simp [waking]
  have hb0 := h.self
  go_loopw [5, 21] (fun kv iv wr => ∃ i : Nat, i ≤ s.n ∧ iv = .int .i64 (i : Int) ∧ kv = .int .i64 (cnt s.cache i : Int) ∧ PlateAt wr g s.n (waking s ks i) ∧ wr.ownsMap Try.prog 3 secE (g + 1) s.n D ∧ Blk wr (g + 2) 84 (DkC g s) ∧ Tn g (g + 3) w wr) (fun _ iv _ => s.n - (intOf iv).toNat)
  case atStart => exact ⟨0, Nat.zero_le _, rfl, rfl, hp0, hD, hb0, Tn.refl _ _ _⟩
  case round =>
    obtain ⟨i, hi, rfl, rfl, hp, hDr, hb, ht⟩ := hrel
    clear hp0 hD hb0 c1 c3
    have hws := ht.size
    by_cases hlt : i < s.n
    · have hhas := hm.has i hlt
      have hkey : keyOf Try.prog 3 (.int .i64 (i : Int)) = some (key i) := keyOf_int_mk Try.underlying3 (WalkArith.wf_i64 (by omega))
      obtain ⟨iz, hiz, hiz0, _, _⟩ := info_parts info_sector
      have hz := zero_sector wr
      have c2 := hb.cell (j := 2) (u := .map (some (g + 1))) rfl
      have hil : (i : Int) < (s.n : Int) := by omega
      have hcl := cnt_le s.cache i
      cases hci : s.cache i with
      | none =>
        rw [hci] at hhas
        have hat := Maps.atKey_of_not_has (D := D) (k := key i) hhas
        have H1 := Lib.hid (show cnt s.cache (i + 1) = cnt s.cache i by simp [cnt, hci])
        have H2 := Lib.hid (show s.woken ks i = s.plate i by simp [DS.woken, hci])
        clear hci
        go_wp2_with (first
          | (at_lookup
             refine wpList_lookup_own_ok _ rfl _ _ 82 rfl 3 87 (int_keyed Try.underlying3) Try.underlying82 secE hz (.lit (.string zeros)) [] (secE_mk rfl) (g + 1) _ D rfl hDr _ (key i) rfl hkey ?_
             intro v ps hv
             rw [hat] at hv
             obtain ⟨ys, hy, rfl, hys⟩ := secE_inv hv
             simp only [Prod.mk.injEq, DataW.lit.injEq, Lit.string.injEq] at hys
             rw [← hys.1]
             clear hys hv
             rw [hhas])
          | (refine wpList_alloc_blk _ rfl 87 rfl iz _ hiz hiz0 ?_
             intro w2 hk2 hb2 hs2)
          | (refine wpList_store_blk _ rfl 87 _ _ rfl wr.heap.size 87 _ _ hk2 rfl rfl rfl (by rw [size_sector, List.size_toArray, bvs_length]; rfl) (sector_one _) ?_
             intro w3 hk3 ht3)
          | fail)
        have hb3 : Below wr.heap.size wr w3 := hb2.trans (ht3.below (Nat.le_refl _) hb2.size)
        have hn3 : Tn 0 0 wr w3 := Tn.ofBelow hb3 (Nat.le_refl _)
        go_roundw
        case rel => exact ⟨i + 1, by omega, by go_num, by rw [H1.out], (hp.congr fun j _ => waking_same H2.out j).tn hn3 (by omega), hn3.map hDr (by omega), hn3.blk hb (by omega), ht.trans (Tn.ofBelow hb3 (Nat.le_refl _))⟩
        case measure => simp [intOf]; omega
      | some xs =>
        obtain ⟨hx, hat⟩ := hm.at_ i hlt xs hci
        rw [hci] at hhas
        have H1 := Lib.hid (show cnt s.cache (i + 1) = cnt s.cache i + 1 by simp [cnt, hci])
        by_cases hkn : cnt s.cache i < n
        · obtain ⟨bk, ok, rfl, hck0⟩ := hk.at_ hkn
          have hXk := hX _ rfl (by omega)
          simp only at hXk
          have hck : wr.cell? ⟨bk, ok + cnt s.cache i, none⟩ = _ := ht.cell hck0 hXk
          have hckl := cell_lt hck
          have hkni : (cnt s.cache i : Int) < (n : Int) := by omega
          cases hkk : ks.getD (cnt s.cache i) false with
          | false =>
            rw [hkk] at hck
            have H2 := Lib.hid (show s.woken ks i = s.plate i by simp only [DS.woken, hci, hkk]; rfl)
            clear hci hkk hk hck0
            generalize cnt s.cache i = ci at *
            go_wp2_with (first
              | (at_lookup
                 refine wpList_lookup_own_ok _ rfl _ _ 82 rfl 3 87 (int_keyed Try.underlying3) Try.underlying82 secE hz (.lit (.string zeros)) [] (secE_mk rfl) (g + 1) _ D rfl hDr _ (key i) rfl hkey ?_
                 intro v ps hv
                 rw [hat] at hv
                 obtain ⟨ys, hy, rfl, hys⟩ := secE_inv hv
                 simp only [Prod.mk.injEq, DataW.lit.injEq, Lit.string.injEq] at hys
                 rw [← hys.1]
                 clear hys hv
                 rw [hhas])
              | (refine wpList_alloc_blk _ rfl 87 rfl iz _ hiz hiz0 ?_
                 intro w2 hk2 hb2 hs2)
              | (refine wpList_store_blk _ rfl 87 _ _ rfl wr.heap.size 87 _ _ hk2 rfl rfl (by rw [List.size_toArray, bvs_length, hx]; rfl) (by rw [size_sector, List.size_toArray, bvs_length, hx]) (sector_one _) ?_
                 intro w3 hk3 ht3
                 have hb3 : Below wr.heap.size wr w3 := hb2.trans (ht3.below (Nat.le_refl _) hb2.size)
                 have hck3 : w3.cell? ⟨bk, ok + ci, none⟩ = _ := (hb3.cell hckl).trans hck)
              | fail)
            have hn3 : Tn 0 0 wr w3 := Tn.ofBelow hb3 (Nat.le_refl _)
            go_roundw
            case rel => exact ⟨i + 1, by omega, by go_num, by rw [H1.out]; go_num, (hp.congr fun j _ => waking_same H2.out j).tn hn3 (by omega), hn3.map hDr (by omega), hn3.blk hb (by omega), ht.trans (Tn.ofBelow hb3 (Nat.le_refl _))⟩
            case measure => simp [intOf]; omega
          | true =>
            rw [hkk] at hck
            have H2 := Lib.hid (show s.woken ks i = xs by simp only [DS.woken, hci, hkk]; rfl)
            clear hci hkk hk hck0
            generalize cnt s.cache i = ci at *
            go_wp2_with (first
              | (at_lookup
                 refine wpList_lookup_own_ok _ rfl _ _ 82 rfl 3 87 (int_keyed Try.underlying3) Try.underlying82 secE hz (.lit (.string zeros)) [] (secE_mk rfl) (g + 1) _ D rfl hDr _ (key i) rfl hkey ?_
                 intro v ps hv
                 rw [hat] at hv
                 obtain ⟨ys, hy, rfl, hys⟩ := secE_inv hv
                 simp only [Prod.mk.injEq, DataW.lit.injEq, Lit.string.injEq] at hys
                 rw [← hys.1]
                 clear hys hv
                 rw [hhas])
              | (refine wpList_alloc_blk _ rfl 87 rfl iz _ hiz hiz0 ?_
                 intro w2 hk2 hb2 hs2)
              | (refine wpList_store_blk _ rfl 87 _ _ rfl wr.heap.size 87 _ _ hk2 rfl rfl (by rw [List.size_toArray, bvs_length, hx]; rfl) (by rw [size_sector, List.size_toArray, bvs_length, hx]) (sector_one _) ?_
                 intro w3 hk3 ht3
                 have hb3 : Below wr.heap.size wr w3 := hb2.trans (ht3.below (Nat.le_refl _) hb2.size)
                 have hck3 : w3.cell? ⟨bk, ok + ci, none⟩ = _ := (hb3.cell hckl).trans hck)
              | fail)
            have hblk5 := hb.below hb3 (by omega)
            have hp5 := hp.tn (Tn.ofBelow (lo := 0) (hi := 0) hb3 (Nat.le_refl _)) (by omega)
            have hD5 := (Tn.ofBelow (lo := 0) (hi := 0) hb3 (Nat.le_refl _)).map hDr (by omega)
            have hT5 : Tn g (g + 3) w w3 := ht.trans (Tn.ofBelow hb3 (Nat.le_refl _))
            have hq5 := hk3.lt
            clear hk2 hb2 hs2 ht3 hck hck3 hp hDr hb ht hz c2 hb3
            generalize wr.heap.size = q at *
            have c1 := hblk5.cell (j := 1) (u := .slice (some ⟨g, 0, none⟩) s.n s.n) rfl
            have hr : w3.rangeAt q 0 (bvs xs) := hk3.range (o := 0) fun j v hv => by simpa using hv
            have hth : w3.there g (i * 64) (bvs xs).length := by rw [bvs_length, hx]; exact (hp5 i hlt).2.2
            have hu := Try.underlying87
            have hi64 : (Try.prog.info? 87).map (·.size) = some (bvs xs).length := by rw [size_sector, bvs_length, hx]
            have h1c : ∀ v ∈ bvs xs, v.oneCell' = true := fun v hv => by obtain ⟨c, _, rfl⟩ := List.mem_map.1 hv; rfl
            have hj0 : 0 ≤ (i : Int) := by omega
            have hkey1 : ∀ v o u, (w3.drew.setCells g o v).cell? ⟨g + 2, 1, none⟩ = some u ↔ w3.drew.cell? ⟨g + 2, 1, none⟩ = some u := fun v o u => by
              rw [World.cell?_setCells_out g v o w3.drew ⟨g + 2, 1, none⟩ (fun h _ => by simp at h)]
            go_wp2_with fail
            go_region_held3 (fun w' => w'.cell? ⟨g + 2, 1, none⟩ = some (.slice (some ⟨g, 0, none⟩) s.n s.n) ∧ w'.rangeAt q 0 (bvs xs) ∧ w'.there g (i * 64) (bvs xs).length)
              (first | exact ⟨c1, hr, hth⟩ | exact ⟨(hkey1 _ _ _).2 c1, World.rangeAt_setCells_apart (w := w3.drew) hr _ _ _ (by omega), World.there_setCells (w := w3.drew) hth _ _ _⟩)
              (first | fail)
            have hT6 : Tn g (g + 3) w3 (w3.drew.setCells g (i * 64) (bvs xs)) := (Tn.sets (b := g) (lo := g) (hi := g + 3) (Nat.le_refl _) (by omega) (bvs xs) (i * 64) w3.drew).drew
            have hG6 := grown_sets g (bvs xs) (i * 64) w3.drew
            have hp6 := PlateAt.set (w := w3.drew) hp5 hlt hx
            have hD6 := (show w3.drew.ownsMap Try.prog 3 secE (g + 1) s.n D from hD5).kept hG6 (by simp)
            have hblk6 : Blk (w3.drew.setCells g (i * 64) (bvs xs)) (g + 2) 84 (DkC g s) := Blk.grown (w := w3.drew) hblk5 hG6 (by simp)
            generalize w3.drew.setCells g (i * 64) (bvs xs) = w6 at *
            go_wp2_with fail
            go_roundw
            case rel => exact ⟨i + 1, by omega, by go_num, by rw [H1.out]; go_num, hp6.congr fun j _ => waking_put H2.out j, hD6, hblk6, hT5.trans hT6⟩
            case measure => simp [intOf]; omega
        · have hkni : (n : Int) ≤ (cnt s.cache i : Int) := by omega
          have H2 := Lib.hid (show s.woken ks i = s.plate i by
            have : ks.getD (cnt s.cache i) false = false := by
              rw [List.getD_eq_getElem?_getD, List.getElem?_eq_none (by rw [← hk.len]; omega)]; rfl
            simp only [DS.woken, hci, this]; rfl)
          clear hci hkn hk
          generalize cnt s.cache i = ci at *
          go_wp2_with (first
            | (at_lookup
               refine wpList_lookup_own_ok _ rfl _ _ 82 rfl 3 87 (int_keyed Try.underlying3) Try.underlying82 secE hz (.lit (.string zeros)) [] (secE_mk rfl) (g + 1) _ D rfl hDr _ (key i) rfl hkey ?_
               intro v ps hv
               rw [hat] at hv
               obtain ⟨ys, hy, rfl, hys⟩ := secE_inv hv
               simp only [Prod.mk.injEq, DataW.lit.injEq, Lit.string.injEq] at hys
               rw [← hys.1]
               clear hys hv
               rw [hhas])
            | (refine wpList_alloc_blk _ rfl 87 rfl iz _ hiz hiz0 ?_
               intro w2 hk2 hb2 hs2)
            | (refine wpList_store_blk _ rfl 87 _ _ rfl wr.heap.size 87 _ _ hk2 rfl rfl (by rw [List.size_toArray, bvs_length, hx]; rfl) (by rw [size_sector, List.size_toArray, bvs_length, hx]) (sector_one _) ?_
               intro w3 hk3 ht3
               have hb3 : Below wr.heap.size wr w3 := hb2.trans (ht3.below (Nat.le_refl _) hb2.size))
            | fail)
          have hn3 : Tn 0 0 wr w3 := Tn.ofBelow hb3 (Nat.le_refl _)
          go_roundw
          case rel => exact ⟨i + 1, by omega, by go_num, by rw [H1.out]; go_num, (hp.congr fun j _ => waking_same H2.out j).tn hn3 (by omega), hn3.map hDr (by omega), hn3.blk hb (by omega), ht.trans (Tn.ofBelow hb3 (Nat.le_refl _))⟩
          case measure => simp [intOf]; omega
    · have hin : i = s.n := by omega
      have hpe : PlateAt wr g s.n (s.woken ks) := hp.congr fun j hj => by unfold waking; rw [if_pos (by omega)]
      clear hin hp
      have c2 := hb.cell (j := 2) (u := .map (some (g + 1))) rfl
      have hgr : g + 2 < wr.heap.size := by omega
      have hnl : (s.n : Int) ≤ (i : Int) := by omega
      go_wp2_with (first
        | (refine wpList_clear_map _ rfl _ 82 rfl 3 87 Try.underlying82 secE (g + 1) _ D rfl hDr ?_
           intro w4 hD4 hg4
           have hb4 := hb.grown hg4 (by simp)
           have c3' := hb4.cell (j := 3) (u := .bool s.on) rfl
           have c4' := hb4.cell (j := 4) (u := .int .i64 s.fuse) rfl
           have f3' := hb4.free 3
           have f4' := hb4.free 4)
        | fail)
      have ht4 : Tn (g + 1) (g + 2) wr w4 := Tn.ofGrown hg4 (Nat.le_refl (g + 1)) (Nat.lt_succ_self (g + 1))
      have ht5 : Tn (g + 2) (g + 3) w4 ((w4.setCell ⟨g + 2, 3, none⟩ (.bool true)).setCell ⟨g + 2, 4, none⟩ (.int .i64 (-1))) := (Tn.set _ _ _ (by omega) (by omega)).trans (Tn.set _ _ _ (by omega) (by omega))
      have hb5 := (hb4.setCell 3 (.bool true)).setCell 4 (.int .i64 (-1))
      go_ret
      exact ⟨rfl, ⟨hb5, (hpe.tn ht4 (by omega)).tn ht5 (by omega), ⟨_, ht5.map (hD4.mono (Nat.zero_le _)) (by omega), MpIs.empty _⟩, hmost, hleast, by simp⟩, ht.trans ((ht4.wide (by omega) (by omega)).trans (ht5.wide (by omega) (by omega)))⟩

/-- Start. -/
theorem start_ (g : Nat) (s : DS) (A : Option Addr) (n c : Nat) (ks : List Bool) (w : World) (h : Dk w g s) (hk : Bls w A n ks) (hc : n ≤ 9223372036854775807) (hX : ∀ a, A = some a → 0 < n → a.block < g ∨ g + 3 ≤ a.block) :
    Calls Try.prog 27 #[.pointer (some ⟨g + 2, 0, none⟩), .slice A n c] w fun e w' => e = .returned (.int .i64 ((s.start ks).1 : Int)) ∧ Dk w' g (s.start ks).2 ∧ Tn g (g + 3) w w' := by
  unfold DS.start
  cases ho : s.on with
  | true =>
    rw [if_pos rfl]
    refine (start_on g s _ w h ho).mono ?_
    rintro e w' ⟨rfl, rfl⟩
    exact ⟨rfl, h, Tn.refl _ _ _⟩
  | false => rw [if_neg (by simp)]; exact start_off g s A n c ks w h hk hc hX ho
end Go.Proofs.Ytlpbdnncbinbmaa
