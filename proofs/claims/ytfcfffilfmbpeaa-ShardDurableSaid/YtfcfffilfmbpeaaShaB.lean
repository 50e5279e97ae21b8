/- Layer 12: a shard's methods that only look: Read, Look, Since, Snaps, Dirty, Frozen. -/
import Derived.Test.YtfcfffilfmbpeaaShaA
set_option linter.all false
namespace Go.Proofs.Ytfcfffilfmbpeaa
open Go.RowKit Go.Maps
namespace Sha
open Blo (vol fun_ GotN AnsN GotO AnsG I64 Dat FitB dfE dfL)

theorem ns_cut {w : World} {g o n : Nat} {l : List Nat} (h : Ns w (some ⟨g, o, none⟩) n l) {k q : Nat} (hq : k + q ≤ n) : Ns w (some ⟨g, o + k, none⟩) q ((l.drop k).take q) := by
  have hl := h.len
  refine ⟨⟨by simp [nvs]; omega, fun j u hu => ?_⟩, fun z hz => h.2 z (List.mem_of_mem_drop (List.mem_of_mem_take hz))⟩
  have hj : j < q := by have := (List.getElem?_eq_some_iff.1 hu).1; simp [nvs] at this; omega
  have hu' : (nvs l)[k + j]? = some u := by
    simp only [nvs, List.getElem?_map] at hu ⊢
    rw [List.getElem?_take, if_pos hj, List.getElem?_drop] at hu
    exact hu
  obtain ⟨b, o', e, hc⟩ := h.1.2 _ u hu'
  injection e with e
  injection e with e1 e2
  subst e1 e2
  exact ⟨g, o + k, rfl, by rw [Nat.add_assoc]; exact hc⟩
section
variable (w : World)
set_option maxRecDepth 100000 in
set_option maxHeartbeats 1000000 in
/-- Some blocks of a volume, read. -/
theorem readp_ (A : Option Addr) (n c : Nat) (v : List Nat) (h : Ns w A n v) (hnc : n ≤ c) (hc : c ≤ 9223372036854775807) (hn : n ≤ 1024) (k q : Nat) (hkq : k + q ≤ n) (hq : 0 < q) :
    Calls Try.prog 27 #[.slice A n c, .int .i64 (k : Int), .int .i64 (q : Int)] w fun e w' => AnsN w w' e 0 ((v.drop k).take q) := by
  obtain ⟨g, o, _, rfl, _, _⟩ := Blo.ns_get h (i := 0) (by omega)
  have hm : manyB (n : Int) = true := by simp [manyB]; omega
  have hwi : Blo.withinB (n : Int) (k : Int) (q : Int) = true := by simp [Blo.withinB]; omega
  have hcut := ns_cut h hkq
  have Hlow := Lib.hid hcut.2
  clear h
  have t1 : (k : Int) ≤ (n : Int) := by omega
  have t2 : ¬ c = k := by omega
  have t3 : (0 : Int) ≤ (k : Int) := by omega
  have t4 : IntKind.i64.wrap ((k : Int) + (q : Int)) = ((k + q : Nat) : Int) := by rw [IntKind.wrap_i64]; omega
  have t5 : ((k + q : Nat) : Int) ≤ (c : Int) := by omega
  have t6 : (k : Int) ≤ ((k + q : Nat) : Int) := by omega
  have t7 : k ≤ c := by omega
  have t8 : k + q - k = q := by omega
  have hq8 : q * 8 ≤ 140737488355328 := by omega
  have hqc : q ≤ c - k := by omega
  have hck : c - k ≤ 9223372036854775807 := by omega
  go_enter Try.func27, Try.ntmps27
  go_wp2_with fail
  refine (Blo.volume_ _ n (by unfold Blo.I64; omega)).mono ?_
  rw [hm]
  rintro e w2 ⟨rfl, rfl⟩
  go_wp2_with fail
  refine (Blo.within_ _ n k q (by omega) (by unfold Blo.I64; omega) (by unfold Blo.I64; omega)).mono ?_
  rw [hwi]
  rintro e w2 ⟨rfl, rfl⟩
  go_wp2_with fail
  refine (Blo.clone_ _ (some ⟨g, o + k, none⟩) q (c - k) _ hcut (fun e => by cases e) hqc hck hq8).mono ?_
  rintro e w3 ⟨V, rfl, hO, hb3⟩
  obtain ⟨A', c', rfl, -, -, -⟩ := own_form hO
  go_wp2
  go_ret2
  exact ⟨A', q, c', rfl, ⟨hO, Hlow.out⟩, hb3⟩
/-- Some blocks of a volume, or all of them. -/
def Span (n k q : Nat) : Prop := k + q ≤ n ∧ (0 < q ∨ (k = 0 ∧ q = n))
theorem span_all (n : Nat) : Span n 0 n := ⟨by omega, .inr ⟨rfl, rfl⟩⟩
theorem read_ (A : Option Addr) (n c : Nat) (v : List Nat) (h : Ns w A n v) (hA : A = none → n = 0 ∧ c = 0) (hnc : n ≤ c) (hc : c ≤ 9223372036854775807) (hn : n ≤ 1024) (k q : Nat) (hs : Span n k q) :
    Calls Try.prog 27 #[.slice A n c, .int .i64 (k : Int), .int .i64 (q : Int)] w fun e w' => AnsN w w' e 0 ((v.drop k).take q) := by
  obtain ⟨h1, h2 | ⟨h2, h3⟩⟩ := hs
  · exact readp_ w A n c v h hnc hc hn k q h1 h2
  · subst h2 h3
    have := Blo.read_ w A q c v h hA hnc hc
    have hm : manyB (q : Int) = true := by simp [manyB]; omega
    rw [hm] at this
    have e : (v.drop 0).take q = v := by rw [List.drop_zero]; exact List.take_of_length_le (by have := h.len; omega)
    rw [e]
    exact this
variable (B b : Nat) (U : Nat → Prop) (s : SS)
theorem ShX.show_ {k : CS} (h : ShX w B U b s k) (r : Nat) (v : List Nat) (hs : Shw s.n k.ls k.u r v) : Calls Try.prog 28 #[.pointer (some ⟨b, 1, none⟩), .int .i64 (r : Int)] w fun e w' => AnsV w w' e v :=
by
  have h1 : (sha b s k)[1]? = some (.int .i64 (s.n : Int)) := rfl
  have h2 : (sha b s k)[1 + 1]? = some (.pointer (some ⟨k.f, 0, none⟩)) := rfl
  have h3 : (sha b s k)[1 + 2]? = some k.uv := rfl
  exact Sha.show_ w B s.n k.f b 1 65 (sha b s k) U k.uv k.u k.ls h.blk h.r.gm h1 h2 h3 r v hs
set_option maxRecDepth 100000 in
set_option maxHeartbeats 1000000 in
theorem sread_ (h : Sh w B U b s) (k q : Nat) (hs : Span s.n k q) : Calls Try.prog 10 #[.pointer (some ⟨b, 0, none⟩), .int .i64 (k : Int), .int .i64 (q : Int)] w fun e w' => AnsN w w' e 0 ((s.now.drop k).take q) := by
  obtain ⟨kk, h, -⟩ := h
  have hmost := h.r.ok.most
  have Hl := Lib.hid h.r.ok.now
  have hsw := h.drew.show_ w.drew B b U s kk.now s.now h.r.now
  have c4 := h.cell (j := 4) (u := .int .i64 (kk.now : Int)) rfl
  have hmade := h.made
  clear h
  go_enter Try.func10, Try.ntmps10
  go_wp2_with fail
  refine hmade.mono ?_
  rintro e w' ⟨rfl, rfl⟩
  go_wp2_with fail
  go_region_held3 (fun w' => w'.cell? ⟨b, 4, none⟩ = some (.int .i64 (kk.now : Int)))
    (first | go_keep | exact c4 | exact (hb2.cell (cell_lt c4)).trans c4 | exact (hb3.cell (cell_lt d4)).trans d4)
    (first
      | (go_at_call 28; refine hsw.mono ?_
         rintro e w2 ⟨A2, m2, c2, rfl, hG2, hb2⟩
         have d4 := (hb2.cell (cell_lt c4)).trans c4
         obtain ⟨g1, g2, g3⟩ := hG2.bounds
         have Hm2 := Lib.hid (hG2.ns.len.trans Hl.out)
         have hrd := read_ w2 A2 m2 c2 s.now hG2.ns g3 g1 g2 (by have := Hm2.out; omega) k q (by rw [Hm2.out]; exact hs))
      | (go_at_call 27; refine hrd.mono ?_
         rintro e w3 ⟨A3, m3, c3, rfl, hG3, hb3⟩))
  have hB3 : Below w.heap.size w w3 := below_step (Blo.below_undrew hb2) hb3 (Nat.le_refl _)
  have hG4 : GotN w3 w.heap.size A3 m3 c3 ((s.now.drop k).take q) := ⟨own_mono hG3.own hb2.size, hG3.low⟩
  clear hsw hrd hG2 hG3 hb2 hb3
  go_wp2
  go_ret2
  exact ⟨A3, m3, c3, rfl, hG4, hB3⟩
set_option maxRecDepth 100000 in
set_option maxHeartbeats 1000000 in
theorem slook_ (h : Sh w B U b s) (id : Int) (hid : hasS s id = true) (k q : Nat) (hs : Span s.n k q) : Calls Try.prog 12 #[.pointer (some ⟨b, 0, none⟩), .int .i64 id, .int .i64 (k : Int), .int .i64 (q : Int)] w fun e w' => AnsN w w' e 0 (((lookS s id).drop k).take q) := by
  obtain ⟨kk, h, -⟩ := h
  have hmost := h.r.ok.most
  have hpos := h.r.ok.has_pos hid
  have hi : I64 id := by unfold I64; omega
  have Hl := Lib.hid (h.r.ok.look_length id)
  obtain ⟨r, hr, hsr⟩ := root_look h.r.snaps rfl h.r.zero id
  have hrun := fun (W : World) (hm : Mp W kk.mb kk.roots.length (rootOf kk.roots)) => hm.look hi
  rw [hr] at hrun
  have hrun0 := hrun w.drew (h.drew.r.map)
  have hsw := h.drew.show_ w.drew B b U s r (lookS s id) hsr
  have c7 := h.cell (j := 7) (u := .map (some kk.mb)) rfl
  have hmade := h.made
  have hhas := has_ w B b U s h id hi
  rw [hid] at hhas
  have hmap := h.drew.r.map
  clear h hr hsr
  go_enter Try.func12, Try.ntmps12
  go_wp2_with fail
  refine hmade.mono ?_
  rintro e w' ⟨rfl, rfl⟩
  go_wp2_with fail
  refine hhas.mono ?_
  rintro e w' ⟨rfl, rfl⟩
  go_wp2_with fail
  go_region_held3 (fun w' => w'.cell? ⟨b, 7, none⟩ = some (.map (some kk.mb)) ∧ (Instr.lookup 63 (.map (some kk.mb)) (.int .i64 id) false).run Try.prog w' = .ok (.int .i64 (r : Int)) w')
    (first | go_keep | exact ⟨c7, hrun0⟩ | exact ⟨d7, hrun _ hmap2⟩ | exact ⟨(hb3.cell (cell_lt d7)).trans d7, hrun _ (hmap2.below hb3)⟩)
    (first
      | (go_at_call 28; refine hsw.mono ?_
         rintro e w2 ⟨A2, m2, c2, rfl, hG2, hb2⟩
         have d7 := (hb2.cell (cell_lt c7)).trans c7
         have hmap2 := hmap.below hb2
         obtain ⟨g1, g2, g3⟩ := hG2.bounds
         have Hm2 := Lib.hid (hG2.ns.len.trans Hl.out)
         have hrd := read_ w2 A2 m2 c2 (lookS s id) hG2.ns g3 g1 g2 (by have := Hm2.out; omega) k q (by rw [Hm2.out]; exact hs))
      | (go_at_call 27; refine hrd.mono ?_
         rintro e w3 ⟨A3, m3, c3, rfl, hG3, hb3⟩))
  have hB3 : Below w.heap.size w w3 := below_step (Blo.below_undrew hb2) hb3 (Nat.le_refl _)
  have hG4 : GotN w3 w.heap.size A3 m3 c3 (((lookS s id).drop k).take q) := ⟨own_mono hG3.own hb2.size, hG3.low⟩
  clear hsw hrd hG2 hG3 hb2 hb3 hrun hrun0
  go_wp2
  go_ret2
  exact ⟨A3, m3, c3, rfl, hG4, hB3⟩
set_option maxRecDepth 100000 in
theorem dirty_ (h : Sh w B U b s) : Calls Try.prog 18 #[.pointer (some ⟨b, 0, none⟩)] w fun e w' => e = .returned (.int .i64 (s.opn.length : Int)) ∧ w = w' := by
  obtain ⟨kk, h, -⟩ := h
  obtain ⟨A, c, hv, -, -, -⟩ := own_form h.r.orow
  have hl := h.r.ops.length
  rw [hl] at hv
  have c6 : w.cell? ⟨b, 6, none⟩ = some (.slice A s.opn.length c) := by rw [← hv]; exact h.cell rfl
  have hmade := h.made
  clear h hl hv
  go_enter Try.func18, Try.ntmps18
  go_wp2_with fail
  refine hmade.mono ?_
  rintro e w' ⟨rfl, rfl⟩
  go_wp2
  go_ret
  exact ⟨rfl, rfl⟩
set_option maxRecDepth 100000 in
theorem frozen_ (h : Sh w B U b s) : Calls Try.prog 19 #[.pointer (some ⟨b, 0, none⟩)] w fun e w' => e = .returned (.bool s.frz) ∧ w = w' := by
  obtain ⟨kk, h, -⟩ := h
  have c9 := h.cell (j := 9) (u := .bool s.frz) rfl
  have hmade := h.made
  clear h
  go_enter Try.func19, Try.ntmps19
  go_wp2_with fail
  refine hmade.mono ?_
  rintro e w' ⟨rfl, rfl⟩
  go_wp2
  go_ret
  exact ⟨rfl, rfl⟩
/-- A row of numbers of the call's own, that was answered. -/
def AnsI (w w' : World) (e : Ending) (l : List Int) : Prop := ∃ A m c, e = .returned (.slice A m c) ∧ w'.ownsRow w.heap.size 3 1 (.slice A m c) m (ivs l) ∧ Below w.heap.size w w'
set_option maxRecDepth 100000 in
set_option maxHeartbeats 1000000 in
theorem clonei_ (A : Option Addr) (n c : Nat) (l : List Int) (hr : Rd w A 1 n (ivs l)) (hA : A = none → n = 0 ∧ c = 0) (hnc : n ≤ c) (hc : c ≤ 9223372036854775807) (hnb : n * 8 ≤ 140737488355328) :
    Calls Try.prog 33 #[.slice A n c] w fun e w' => AnsI w w' e l := by
  obtain ⟨i0, hi0, hz0, hz1, hz2⟩ := int_info
  have Hz := Lib.hid hz2
  clear hz2
  have hne := fun (w : World) (a : Option Addr) (n c : Nat) => Lib.run_eql_slice_nil (P := Try.prog) w 42 3 a n c 0 0 Try.underlying42
  have hnl : n = l.length := by have := hr.1; rw [ivs_length] at this; omega
  have Hl := Lib.hid hnl
  clear hnl
  cases A with
  | none =>
    obtain ⟨rfl, rfl⟩ := hA rfl
    have hx : l = [] := List.eq_nil_of_length_eq_zero (by rw [← Hl.out])
    subst hx
    go_enter Try.func33, Try.ntmps33
    go_wp2
    go_ret
    exact ⟨none, 0, 0, rfl, own_nil _ _ _ _, Below.refl _ _⟩
  | some a =>
    go_enter Try.func33, Try.ntmps33
    go_wp2_with (first
    | (at_builtin
       refine wpList_app _ rfl (.tmp 5) (.tmp 6) _ rfl w.heap.size 3 i0 (.int .i64 0) 1 8 Try.underlying42 hi0 hz0 hz1 Hz.out rfl Nat.one_pos (.slice (some ⟨w.heap.size, 0, none⟩) 0 0) 0 [] rfl (own_new w w.heap.size #[] 3 rfl (Nat.le_refl _) (by unfold maxLen; omega)) (some a) n c (ivs l) rfl (by simp) (hr.alloc _) (ivs_one l) (by unfold maxLen; omega) (by omega) (by simp) ?_
       intro v2 w2 hown2 hg2 hat2
       have hb2 : Below w.heap.size w w2 := ((Below.refl _ _).alloc (Nat.le_refl _) _).grown hg2 (by simp) (fun k hk => by simp [Value.ownBlock] at hk; omega)
       simp only [Nat.zero_add, List.nil_append] at hown2))
    go_ret
    obtain ⟨A2, c2, rfl, -, -, -⟩ := own_form hown2
    exact ⟨A2, n, c2, rfl, hown2, hb2⟩
/-- The numbers of the snapshots. -/
def idsS (s : SS) : List Int := s.snaps.map Prod.fst
theorem ShR.ids {w : World} {B b : Nat} {U : Nat → Prop} {s : SS} {k : CS} (h : ShR w B U b s k) : k.roots.map Prod.fst = idsS s := h.snaps.map_eq fun _ _ q => q.1
set_option maxRecDepth 100000 in
set_option maxHeartbeats 1000000 in
theorem snaps_ (h : Sh w B U b s) : Calls Try.prog 14 #[.pointer (some ⟨b, 0, none⟩)] w fun e w' => AnsI w w' e (idsS s) := by
  obtain ⟨kk, h, -⟩ := h
  obtain ⟨A, c, hv, h1, h2, h3⟩ := own_form h.r.rrow
  have hrow := h.r.rrow
  have hids := h.r.ids
  have hlen : kk.roots.length ≤ 32 := by rw [h.r.snaps.length]; exact h.r.ok.few2
  rw [hids, hv] at hrow
  have c8 : w.cell? ⟨b, 8, none⟩ = some (.slice A kk.roots.length c) := by rw [← hv]; exact h.cell rfl
  have hmade := h.made
  clear h hv hids
  generalize kk.roots.length = m at *
  have hcl := clonei_ w A m c (idsS s) (rd_own hrow) h3 h1 (by unfold maxLen at h2; omega) (by omega)
  go_enter Try.func14, Try.ntmps14
  go_wp2_with fail
  refine hmade.mono ?_
  rintro e w' ⟨rfl, rfl⟩
  go_wp2_with fail
  refine hcl.mono ?_
  rintro e w2 ⟨A2, m2, c2, rfl, hA2, hb2⟩
  go_wp2
  go_ret
  exact ⟨A2, m2, c2, rfl, hA2, hb2⟩
theorem goto_mono {w : World} {B B' : Nat} {A : Option Addr} {m c : Nat} {l : List BOp} (h : GotO w B A m c l) (hb : B' ≤ B) : GotO w B' A m c l := by
  obtain ⟨⟨L, hO, hL⟩, hs⟩ := h
  exact ⟨⟨L, hO.mono hb, hL⟩, hs⟩
/-- The volume of a snapshot; of none, with the number 0. -/
theorem sbase_len {s : SS} (h : Ok s) (id : Int) : (lookS s id).length = s.n := h.look_length id
set_option maxRecDepth 100000 in
set_option maxHeartbeats 2000000 in
theorem since_ (h : Sh w B U b s) (base id : Int) (hid : hasS s id = true) (hbase : base = 0 ∨ hasS s base = true) : Calls Try.prog 20 #[.pointer (some ⟨b, 0, none⟩), .int .i64 base, .int .i64 id] w fun e w' => AnsG w w' e (dfE (lookS s base) (lookS s id)) (dfL (lookS s base) (lookS s id)) := by
  obtain ⟨kk, h, -⟩ := h
  have hmost := h.r.ok.most
  have hpos := h.r.ok.has_pos hid
  have hi : I64 id := by unfold I64; omega
  have hbi : I64 base := by
    rcases hbase with e | e
    · unfold I64; omega
    · have := h.r.ok.has_pos e
      unfold I64; omega
  have Hl := Lib.hid (h.r.ok.look_length id)
  have Hlb := Lib.hid (h.r.ok.look_length base)
  obtain ⟨r, hr, hsr⟩ := root_look h.r.snaps rfl h.r.zero id
  obtain ⟨rb, hrb, hsrb⟩ := root_look h.r.snaps rfl h.r.zero base
  have hrun := fun (W : World) (hm : Mp W kk.mb kk.roots.length (rootOf kk.roots)) => hm.look hi
  have hrunb := fun (W : World) (hm : Mp W kk.mb kk.roots.length (rootOf kk.roots)) => hm.look hbi
  rw [hr] at hrun
  rw [hrb] at hrunb
  have hrun0 := hrun w.drew (h.drew.r.map)
  have hrunb0 := hrunb w.drew (h.drew.r.map)
  have hsw := h.drew.show_ w.drew B b U s rb (lookS s base) hsrb
  have c7 := h.cell (j := 7) (u := .map (some kk.mb)) rfl
  have hmade := h.made
  have hhas := has_ w B b U s h id hi
  rw [hid] at hhas
  have hhasb := has_ w B b U s h base hbi
  have hmap := h.drew.r.map
  have hX := h.drew
  clear h hr hrb
  by_cases hz : base = 0
  · subst hz
    clear hhasb hbase
    go_enter Try.func20, Try.ntmps20
    go_wp2_with fail
    refine hmade.mono ?_
    rintro e w' ⟨rfl, rfl⟩
    go_wp2_with fail
    refine hhas.mono ?_
    rintro e w' ⟨rfl, rfl⟩
    go_wp2_with fail
    have c7d : w.drew.cell? ⟨b, 7, none⟩ = some (.map (some kk.mb)) := c7
    go_region_held3 (fun w' => w'.cell? ⟨b, 7, none⟩ = some (.map (some kk.mb)) ∧ (Instr.lookup 63 (.map (some kk.mb)) (.int .i64 id) false).run Try.prog w' = .ok (.int .i64 (r : Int)) w' ∧ (Instr.lookup 63 (.map (some kk.mb)) (.int .i64 0) false).run Try.prog w' = .ok (.int .i64 (rb : Int)) w')
      (first | go_keep | exact ⟨c7, hrun0, hrunb0⟩ | exact ⟨d7, hrun _ hmap2, hrunb _ hmap2⟩ | exact ⟨e7, hrun _ hmap3, hrunb _ hmap3⟩ | exact ⟨(hb4.cell (cell_lt e7)).trans e7, hrun _ (hmap3.below hb4), hrunb _ (hmap3.below hb4)⟩)
      (first
        | (go_at_call 28; refine hsw.mono ?_
           rintro e w2 ⟨A2, m2, c2, rfl, hG2, hb2⟩
           have d7 := (hb2.cell (cell_lt c7d)).trans c7d
           have hmap2 := hmap.below hb2
           have hX2 := hX.below hb2
           have hsw2 := hX2.show_ w2 B b U s r (lookS s id) hsr
           clear hsw)
        | (go_at_call 28; refine hsw2.mono ?_
           rintro e w3 ⟨A3, m3, c3, rfl, hG3, hb3⟩
           have e7 := (hb3.cell (cell_lt d7)).trans d7
           have hmap3 := hmap2.below hb3
           have hG23 := hG2.keep hb3
           obtain ⟨g1, g2, g3⟩ := hG23.bounds
           obtain ⟨g4, g5, g6⟩ := hG3.bounds
           have hdf := Blo.diff w3 A2 A3 m2 m3 c2 c3 _ _ hG23.ns hG3.ns g1 g2 g4 g5)
        | (go_at_call 36; refine hdf.mono ?_
           rintro e w4 ⟨A4, m4, c4, rfl, hG4, hb4⟩))
    all_goals (
      have hB3 : Below w.heap.size w w3 := below_step (Blo.below_undrew hb2) hb3 (Nat.le_refl _)
      have hB4 : Below w.heap.size w w4 := below_step hB3 hb4 (Nat.le_refl _)
      have hG5 := goto_mono hG4 (Nat.le_trans (show w.heap.size ≤ w3.heap.size from hB3.size) (Nat.le_refl _))
      clear hsw2 hdf hG2 hG3 hG4 hb2 hb3 hb4 hrun hrun0 hrunb hrunb0 hX hX2
      go_wp2
      go_ret2
      exact ⟨A4, m4, c4, rfl, hG5, hB4⟩)
  · have hhb : hasS s base = true := by
      rcases hbase with e | e
      · exact absurd e hz
      · exact e
    rw [hhb] at hhasb
    have hz2 : (base != 0) = true := by simp [hz]
    clear hbase
    go_enter Try.func20, Try.ntmps20
    go_wp2_with fail
    refine hmade.mono ?_
    rintro e w' ⟨rfl, rfl⟩
    go_wp2_with fail
    refine hhas.mono ?_
    rintro e w' ⟨rfl, rfl⟩
    go_wp2_with fail
    refine hhasb.mono ?_
    rintro e w' ⟨rfl, rfl⟩
    go_wp2_with fail
    have c7d : w.drew.cell? ⟨b, 7, none⟩ = some (.map (some kk.mb)) := c7
    go_region_held3 (fun w' => w'.cell? ⟨b, 7, none⟩ = some (.map (some kk.mb)) ∧ (Instr.lookup 63 (.map (some kk.mb)) (.int .i64 id) false).run Try.prog w' = .ok (.int .i64 (r : Int)) w' ∧ (Instr.lookup 63 (.map (some kk.mb)) (.int .i64 base) false).run Try.prog w' = .ok (.int .i64 (rb : Int)) w')
      (first | go_keep | exact ⟨c7, hrun0, hrunb0⟩ | exact ⟨d7, hrun _ hmap2, hrunb _ hmap2⟩ | exact ⟨e7, hrun _ hmap3, hrunb _ hmap3⟩ | exact ⟨(hb4.cell (cell_lt e7)).trans e7, hrun _ (hmap3.below hb4), hrunb _ (hmap3.below hb4)⟩)
      (first
        | (go_at_call 28; refine hsw.mono ?_
           rintro e w2 ⟨A2, m2, c2, rfl, hG2, hb2⟩
           have d7 := (hb2.cell (cell_lt c7d)).trans c7d
           have hmap2 := hmap.below hb2
           have hX2 := hX.below hb2
           have hsw2 := hX2.show_ w2 B b U s r (lookS s id) hsr
           clear hsw)
        | (go_at_call 28; refine hsw2.mono ?_
           rintro e w3 ⟨A3, m3, c3, rfl, hG3, hb3⟩
           have e7 := (hb3.cell (cell_lt d7)).trans d7
           have hmap3 := hmap2.below hb3
           have hG23 := hG2.keep hb3
           obtain ⟨g1, g2, g3⟩ := hG23.bounds
           obtain ⟨g4, g5, g6⟩ := hG3.bounds
           have hdf := Blo.diff w3 A2 A3 m2 m3 c2 c3 _ _ hG23.ns hG3.ns g1 g2 g4 g5)
        | (go_at_call 36; refine hdf.mono ?_
           rintro e w4 ⟨A4, m4, c4, rfl, hG4, hb4⟩))
    all_goals (
      have hB3 : Below w.heap.size w w3 := below_step (Blo.below_undrew hb2) hb3 (Nat.le_refl _)
      have hB4 : Below w.heap.size w w4 := below_step hB3 hb4 (Nat.le_refl _)
      have hG5 := goto_mono hG4 (Nat.le_trans (show w.heap.size ≤ w3.heap.size from hB3.size) (Nat.le_refl _))
      clear hsw2 hdf hG2 hG3 hG4 hb2 hb3 hb4 hrun hrun0 hrunb hrunb0 hX hX2
      go_wp2
      go_ret2
      exact ⟨A4, m4, c4, rfl, hG5, hB4⟩)
end
end Sha
end Go.Proofs.Ytfcfffilfmbpeaa
