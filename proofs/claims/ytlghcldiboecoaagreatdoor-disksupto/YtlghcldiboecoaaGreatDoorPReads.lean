/- reads: a reader more, or a reader is fed. -/
import Derived.Test.YtlghcldiboecoaaGreatDoorQ45
import Derived.Deep.RegionHeld3
set_option linter.unusedVariables false
namespace Go.Proofs.YtlghcldiboecoaaGreatDoor
open Go.RowKit Go.Pair

theorem Tryz.info179 : (Tryz.prog.info? 179).map (fun i => (i.zero, i.size, i.bytes)) = some (some (.agg #[.pointer none, .pointer none]), 2, 16) := by kernel_rfl

/-- The caller's world beside leavers. -/
def Jr (A L WB : Nat) (x0 x1 : Value) (tot N M : Nat) (w : World) (Shun : Loc → Prop) : Prop := ShunT 271 Shun w ∧ (∀ l, Shun l → ∃ a : Addr, l = .cell a ∧ A ≤ a.block) ∧ ∃ v S ra rc rds tot0 N0 M0, Sim (BsOf Shun) w v ∧ Rw v L WB S x0 x1 ra rc rds tot0 N0 M0 ∧ tot0 ≤ tot ∧ N0 ≤ N ∧ M0 ≤ M ∧ rds.length ≤ M

/-- What a step leaves of the memory below. -/
def Lor (L WB : Nat) (w w' : World) : Prop := w.heap.size ≤ w'.heap.size ∧ ∀ i, i < L → i ≠ WB → w'.heap[i]? = w.heap[i]?

/-- What was there stands. -/
structure Up (v v' : World) : Prop where
  size : v.heap.size ≤ v'.heap.size
  block : ∀ i, i < v.heap.size → v'.heap[i]? = v.heap[i]?

theorem Up.heap {v v' v2 : World} (h : Up v v') (e : v2.heap = v'.heap) : Up v v2 := ⟨by rw [e]; exact h.size, fun i hi => by rw [e]; exact h.block i hi⟩
theorem Up.of {v v' : World} (h : Below v.heap.size v v') : Up v v' := ⟨h.size, fun i hi => h.block i hi⟩
theorem Up.trans {v v' v2 : World} (h : Up v v') (h' : Up v' v2) : Up v v2 := ⟨Nat.le_trans h.size h'.size, fun i hi => (h'.block i (Nat.lt_of_lt_of_le hi h.size)).trans (h.block i hi)⟩
theorem Up.rw {v v' : World} (h : Up v v') {L WB : Nat} {S : Nat → Prop} {x0 x1 : Value} {ra : Option Addr} {rc : Nat} {rds : List Rd} {tot N M : Nat} (hr : Rw v L WB S x0 x1 ra rc rds tot N M) : Rw v' L WB S x0 x1 ra rc rds tot N M :=
  hr.keep h.size (Nat.le_refl _) (fun i cs t hi _ => h.block i (ltOf hi))

theorem Los.real {Bs : Nat → Prop} {L WB : Nat} {w w' v v' : World} (h : Los L WB v v') (hk : Kept Bs w w') (hs : Sim Bs w v) (hs' : Sim Bs w' v') : Lor L WB w w' := ⟨hk.grow, fun i hi hn => Sim.stay hk hs hs' (h.2 i hi hn)⟩

set_option maxRecDepth 100000 in
set_option maxHeartbeats 8000000 in
theorem reads_E {Post : Value → World → Prop} {Shun : Loc → Prop} {w : World} {A L WB : Nat} {x0 x1 : Value} {tot N M : Nat} (hJ : Jr A L WB x0 x1 tot N M w Shun) (hAL : A ≤ L) (k a b c : Int) (s t : ByteArray) (hk : k = 4 ∨ k = 5) (ha : -9223372036854775808 ≤ a ∧ a ≤ 9223372036854775807) (hs : s.size ≤ 1048576) (htot : tot + s.size ≤ 1400000) (hN : N + s.size ≤ 900000000) (hM : M ≤ 900000000) :
    CallsE Tryz.prog Post 53 #[.pointer (some ⟨WB, 0, none⟩), opv k a b c s t] Shun w (fun x w' Sh' => x = .bool true ∧ Jr A L WB x0 x1 (tot + s.size) (N + s.size) (M + 1) w' Sh' ∧ Lor L WB w w') := by
  obtain ⟨hS, hTop, v00, S, ra, rc, rds, tot0, N0, M0, hs00, hR00, ht0, hN0, hM0, hn0⟩ := hJ
  refine callsE_of_wpE (t := 4) Tryz.func53 (by rfl) rfl rfl ?_
  simp only [Tryz.ntmps53, List.size_toArray, List.length_cons, List.length_nil, Nat.reduceAdd, Nat.reduceSub, Array.replicate_succ, Array.replicate_zero, List.push_toArray, List.append_toArray, List.nil_append, List.cons_append]
  have hfn : ∃ f, Tryz.prog.funcs[53]? = some f := ⟨_, Tryz.func53⟩
  -- the step's own copy
  refine wpE_then hfn (by kernel_rfl) hS rfl [] (fun v hv Ql hn hr he => ?_)
  have HR := hid (hR00.heap (Sim.heap hv hs00))
  have HN := hid hn
  clear hn hr he
  clear hR00 hs00 v00
  have HU := hid (Up.of (below1 v (.cells #[.int .i64 k, .int .i64 a, .int .i64 b, .int .i64 c, .string s, .string t] 76)))
  have HOB := hid (heap_alloc_new v (.cells #[.int .i64 k, .int .i64 a, .int .i64 b, .int .i64 c, .string s, .string t] 76))
  go_wp2
  refine HN.out _ _ (fun w1 hk1 hs1 => ?_)
  clear HN Ql
  generalize v.alloc (.cells #[.int .i64 k, .int .i64 a, .int .i64 b, .int .i64 c, .string s, .string t] 76) = v1 at *
  have hS1 := hS.kept hk1
  have hwl := HR.out.wl
  have hL := HR.out.le
  obtain ⟨ba, bc, flat, da, dc, flad, hbk⟩ := HR.out.bk
  have HBK := hid hbk
  clear hbk
  -- a reader more
  refine wpE_then hfn (by kernel_rfl) hS1 rfl [] (fun v2 hv2 Ql hn hr he => ?_)
  have e2 : v2.heap = v1.heap := Sim.heap hv2 hs1
  have HU2 := hid (HU.out.heap e2)
  have HOB2 : Hid (v2.heap[v.heap.size]? = some (.cells #[.int .i64 k, .int .i64 a, .int .i64 b, .int .i64 c, .string s, .string t] 76)) := by rw [e2]; exact HOB.out
  have HR2 := hid (HU2.out.rw HR.out)
  have HN := hid hn
  have HRT := hid hr
  clear hn hr he HU HOB e2
  have c0 := cellOf (j := 0) HOB2.out rfl
  rcases hk with rfl | rfl
  · have HWB2 := hid ((HU2.out.block WB (ltOf HBK.out.blk)).trans HBK.out.blk)
    obtain ⟨i0, hi0, hz0, hz1, hz2⟩ := info_parts Tryz.info179
    go_wp2_with (first
      | (go_at_call 96; refine (newReader_any _).mono ?_; rintro e w3 ⟨rfl, hw3⟩; have HB3 : Hid (Below v2.heap.size v2 w3) := by rw [hw3]; exact below1 _ _
         have HR3 : Hid (w3.heap[v2.heap.size]? = some (.cells #[.slice none 0 0, .bool false] 237)) := by rw [hw3]; exact heap_alloc_new _ _
         have HWB3 := hid ((HB3.out.block WB (ltOf HWB2.out)).trans HWB2.out)
         have cw3 := cellOf (j := 2) HWB3.out rfl
         have HROW := hid (((ownsRow_below HR2.out.row HB3.out).alloc (.cells #[.slice none 0 0, .int .i64 0, .bool false] 177)).alloc (.cells #[.pointer (some ⟨v2.heap.size, 0, none⟩), .pointer (some ⟨w3.heap.size, 0, none⟩)] 179))
         have HB4 := hid (((below1 w3 (.cells #[.slice none 0 0, .int .i64 0, .bool false] 177))).trans ((below1 (w3.alloc (.cells #[.slice none 0 0, .int .i64 0, .bool false] 177)) (.cells #[.pointer (some ⟨v2.heap.size, 0, none⟩), .pointer (some ⟨w3.heap.size, 0, none⟩)] 179)).mono (by simp)))
         have HNB : Hid (((w3.alloc (.cells #[.slice none 0 0, .int .i64 0, .bool false] 177)).alloc (.cells #[.pointer (some ⟨v2.heap.size, 0, none⟩), .pointer (some ⟨w3.heap.size, 0, none⟩)] 179)).heap[w3.heap.size + 1]? = some (.cells #[.pointer (some ⟨v2.heap.size, 0, none⟩), .pointer (some ⟨w3.heap.size, 0, none⟩)] 179)) := by
           have h := heap_alloc_new (w3.alloc (.cells #[.slice none 0 0, .int .i64 0, .bool false] 177)) (.cells #[.pointer (some ⟨v2.heap.size, 0, none⟩), .pointer (some ⟨w3.heap.size, 0, none⟩)] 179)
           rw [show (w3.alloc (.cells #[.slice none 0 0, .int .i64 0, .bool false] 177)).heap.size = w3.heap.size + 1 by simp] at h
           exact h
         have HQ4 : Hid (((w3.alloc (.cells #[.slice none 0 0, .int .i64 0, .bool false] 177)).alloc (.cells #[.pointer (some ⟨v2.heap.size, 0, none⟩), .pointer (some ⟨w3.heap.size, 0, none⟩)] 179)).heap[w3.heap.size]? = some (.cells #[.slice none 0 0, .int .i64 0, .bool false] 177)) := (Below.heap_alloc _ _ _ (by simp)).trans (heap_alloc_new _ _)
         clear hw3)
      | (at_builtin; refine wpList_append_keep _ rfl _ _ 64 rfl L 179 i0 (.agg #[.pointer none, .pointer none]) 2 16 Tryz.underlying64 hi0 hz0 hz1 hz2 rfl (by decide) _ rds.length (rcells rds) rfl HROW.out ⟨w3.heap.size + 1, 0, none⟩ 1 1 [.pointer (some ⟨v2.heap.size, 0, none⟩), .pointer (some ⟨w3.heap.size, 0, none⟩)] rfl rfl (World.news_of_block HNB.out) (by intro u hu; simp at hu; rcases hu with rfl | rfl <;> rfl) (by omega) (by unfold maxLen; omega) (by omega) ?hLs ?_))
    case hLs =>
      have h1 := HB3.out.size
      have h2 := HB4.out.size
      have h3 := HU2.out.size
      show L ≤ _
      omega
    intro V5 w5 hr5
    obtain ⟨va5, vc5, hV5⟩ := own_shapeZ hr5.1
    subst hV5
    have hle : L ≤ w3.heap.size := by
      have h1 := HB3.out.size
      have h3 := HU2.out.size
      omega
    have HW5 : Hid (w5.heap[WB]? = some (.cells #[x0, x1, .slice ra rds.length rc, .slice none 0 0, .slice ba N0 bc, .slice da M0 dc, .slice none 0 0, .slice none 0 0] 73)) := by
      have h4 := (HB4.out.block WB (ltOf HWB3.out)).trans HWB3.out
      rcases hr5.2.2 with ⟨_, hg⟩ | ⟨_, hg⟩
      · exact (hg.block WB (ltOf h4) (fun e => by have := (HROW.out.lt WB e.symm).1; omega)).trans h4
      · exact (hg.block WB (ltOf h4)).trans h4
    have HNEW := hid (HR2.out.newRd (HB3.out.trans (HB4.out.mono HB3.out.size)) ((HB4.out.block _ (ltOf HR3.out)).trans HR3.out) HQ4.out (Nat.le_refl _) HB3.out.size hr5)
    have c5 := cellOf (j := 2) HW5.out rfl
    have z5 := frozen_of_row w5 WB 2 _ 73 HW5.out
    clear HROW HB4 HNB HQ4 hr5 cw3
    go_wp2
    refine HRT.out _ _ (fun w' hk' hs' => ?_)
    obtain ⟨⟨ra', rc', hnew⟩, hlos⟩ := HNEW.out
    have hlos2 : Los L WB v (w5.setCell ⟨WB, 2, none⟩ (.slice va5 (rds.length + 1) vc5)) := Los.trans ⟨HU2.out.size, fun i hi _ => HU2.out.block i (by omega)⟩ hlos
    exact ⟨by simp, rfl, rfl, ⟨hS1.kept hk', hTop, _, S, ra', rc', _, tot0, N0, M0, hs', hnew, by omega, by omega, by omega, by rw [List.length_append]; simp; omega⟩, hlos2.real (hk1.trans hk') hv hs'⟩
  · go_wp2
    refine HN.out _ _ (fun w2 hk2 hs2 => ?_)
    clear HN HRT c0 Ql
    have hS2 := hS1.kept hk2
    have hK2 := hk1.trans hk2
    clear hk1 hk2 hs1 hv2 hS1 v1
    -- is there one?
    refine wpE_then hfn (by kernel_rfl) hS2 rfl [] (fun v3 hv3 Ql hn hr he => ?_)
    have e3 : v3.heap = v2.heap := Sim.heap hv3 hs2
    have HU3 := hid (HU2.out.heap e3)
    have HOB3 : Hid (v3.heap[v.heap.size]? = some (.cells #[.int .i64 5, .int .i64 a, .int .i64 b, .int .i64 c, .string s, .string t] 76)) := by rw [e3]; exact HOB2.out
    have HN := hid hn
    have HRT := hid hr
    clear hn hr he HU2 HOB2 HR2 e3 hs2 v2
    have HWB3 := hid ((HU3.out.block WB (ltOf HBK.out.blk)).trans HBK.out.blk)
    have cw := cellOf (j := 2) HWB3.out rfl
    by_cases hn1 : rds.length = 0
    · have hnz : (rds.length : Int) = 0 := by omega
      go_wp2
      refine HRT.out _ _ (fun w' hk' hs' => ?_)
      have hlos : Los L WB v v3 := ⟨HU3.out.size, fun i hi _ => HU3.out.block i (by omega)⟩
      exact ⟨by simp, rfl, rfl, ⟨hS2.kept hk', hTop, _, S, ra, rc, rds, tot0, N0, M0, hs', HU3.out.rw HR.out, by omega, by omega, by omega, by omega⟩, hlos.real (hK2.trans hk') hv hs'⟩
    have hnz : ¬ (rds.length : Int) = 0 := by omega
    go_wp2
    refine HN.out _ _ (fun w3 hk3 hs3 => ?_)
    clear HN HRT cw HWB3 Ql
    have hS3 := hS2.kept hk3
    have hK3 := hK2.trans hk3
    clear hK2 hk3 hv3 hS2
    -- which
    refine wpE_then hfn (by kernel_rfl) hS3 rfl [] (fun v4 hv4 Ql hn hr he => ?_)
    have e4 : v4.heap = v3.heap := Sim.heap hv4 hs3
    have HU4 := hid (HU3.out.heap e4)
    have HOB4 : Hid (v4.heap[v.heap.size]? = some (.cells #[.int .i64 5, .int .i64 a, .int .i64 b, .int .i64 c, .string s, .string t] 76)) := by rw [e4]; exact HOB3.out
    have HN := hid hn
    clear hn hr he HU3 HOB3 e4 hs3 v3
    have hz := pk_lt a (n := rds.length) (by omega)
    have HPK : Hid (∀ W, Calls Tryz.prog 13 #[.int .i64 a, .int .i64 rds.length] W fun e w' => e = .returned (.int .i64 (pk a rds.length : Nat)) ∧ w' = W) := fun W => pick_is W a rds.length ha.1 ha.2 (by omega) (by omega)
    generalize pk a rds.length = z at *
    obtain ⟨r, hr⟩ : ∃ r, rds[z]? = some r := ⟨_, List.getElem?_eq_getElem hz⟩
    obtain ⟨gl, hra⟩ : ∃ gl, ra = some ⟨gl, 0, none⟩ := by
      rcases HR.out.row.2 with ⟨e, h⟩ | ⟨g, cap, cur, e, _⟩
      · omega
      · cases e; exact ⟨g, rfl⟩
    subst hra
    have hrc : rds.length ≤ rc := by
      rcases HR.out.row.2 with ⟨e, h⟩ | ⟨g, cap, cur, e, _, _, hc, _⟩
      · omega
      · cases e; exact hc
    have HR4 := hid (HU4.out.rw HR.out)
    have HWB4 := hid ((HU4.out.block WB (ltOf HBK.out.blk)).trans HBK.out.blk)
    have g0 := cellOf (j := 2) HWB4.out rfl
    have o1 := cellOf (j := 1) HOB4.out rfl
    have f0 : v4.cell? ⟨gl, z * 2, none⟩ = some (.pointer (some ⟨r.R, 0, none⟩)) := by
      have := HR4.out.row.cells (g := gl) rfl (z * 2) _ (rcells_get hr).1
      rwa [Addr.add_lit, Nat.zero_add] at this
    have f1 : v4.cell? ⟨gl, z * 2 + 1, none⟩ = some (.pointer (some ⟨r.Q, 0, none⟩)) := by
      have := HR4.out.row.cells (g := gl) rfl (z * 2 + 1) _ (rcells_get hr).2
      rwa [Addr.add_lit, Nat.zero_add] at this
    have n0 := World.new_ne v4 _ g0
    have n1 := World.new_ne v4 _ o1
    have n2 := World.new_ne v4 _ f0
    have hnz : (rds.length : Int) > 0 := by omega
    have hnd : decide ((rds.length : Int) > 0) = true := decide_eq_true hnz
    have hzz : (z : Int) < (rds.length : Int) := by omega
    refine wp_ends ?_
    apply Exists.intro
    apply Exists.intro
    refine ⟨?_, ?_⟩
    · go_region_held3 (fun W => W.cell? ⟨WB, 2, none⟩ = some (.slice (some ⟨gl, 0, none⟩) rds.length rc) ∧ W.cell? ⟨v.heap.size, 1, none⟩ = some (.int .i64 a) ∧ W.cell? ⟨gl, z * 2, none⟩ = some (.pointer (some ⟨r.R, 0, none⟩)) ∧ W.cell? ⟨gl, z * 2 + 1, none⟩ = some (.pointer (some ⟨r.Q, 0, none⟩))) (go_keep) (first
        | (go_at_call 13; refine (HPK.out _).mono ?_; rintro e w1 ⟨rfl, hw1⟩; have hw2 := hw1.symm; clear hw1; subst hw2))
      all_goals exact ⟨rfl, rfl⟩
    clear n0 n1 n2 g0 o1 f0 f1 HPK hnz hnd hzz HWB4
    have HU5 : Hid (Up v (v4.alloc (.cells #[.pointer (some ⟨r.R, 0, none⟩), .pointer (some ⟨r.Q, 0, none⟩)] 179)).drew) := HU4.out.trans (Up.of (below1 v4 _).drew)
    have HPB : Hid ((v4.alloc (.cells #[.pointer (some ⟨r.R, 0, none⟩), .pointer (some ⟨r.Q, 0, none⟩)] 179)).drew.heap[v4.heap.size]? = some (.cells #[.pointer (some ⟨r.R, 0, none⟩), .pointer (some ⟨r.Q, 0, none⟩)] 179)) := heap_alloc_new _ _
    have HOB5 : Hid ((v4.alloc (.cells #[.pointer (some ⟨r.R, 0, none⟩), .pointer (some ⟨r.Q, 0, none⟩)] 179)).drew.heap[v.heap.size]? = some (.cells #[.int .i64 5, .int .i64 a, .int .i64 b, .int .i64 c, .string s, .string t] 76)) := ((below1 v4 _).drew.block _ (ltOf HOB4.out)).trans HOB4.out
    have hPB : v.heap.size ≤ v4.heap.size := HU4.out.size
    refine HN.out _ _ (fun w4 hk4 hs4 => ?_)
    clear HN HOB4 HU4 HR4 Ql
    generalize (v4.alloc (.cells #[.pointer (some ⟨r.R, 0, none⟩), .pointer (some ⟨r.Q, 0, none⟩)] 179)).drew = v5 at *
    have hS4 := hS3.kept hk4
    have hK4 := hK3.trans hk4
    clear hK3 hk4 hS3 hv4
    generalize v4.heap.size = PB at *
    -- the loan
    refine wpE_then hfn (by kernel_rfl) hS4 rfl [] (fun v6 hv6 Ql hn hr' he => ?_)
    have e6 : v6.heap = v5.heap := Sim.heap hv6 hs4
    have HU6 := hid (HU5.out.heap e6)
    have HOB6 : Hid (v6.heap[v.heap.size]? = some (.cells #[.int .i64 5, .int .i64 a, .int .i64 b, .int .i64 c, .string s, .string t] 76)) := by rw [e6]; exact HOB5.out
    have HPB6 : Hid (v6.heap[PB]? = some (.cells #[.pointer (some ⟨r.R, 0, none⟩), .pointer (some ⟨r.Q, 0, none⟩)] 179)) := by rw [e6]; exact HPB.out
    have HN := hid hn
    clear hn hr' he HU5 HOB5 HPB e6 hs4 v5
    have o4 := cellOf (j := 4) HOB6.out rfl
    go_wp2_with (go_at_call 87; refine (lentBytes_any _ s (by omega)).mono ?_; rintro e v7 ⟨rfl, hl7, hb7⟩)
    have HU7 := hid (HU6.out.trans (Up.of hb7))
    have HL7 := hid hl7
    have HOB7 := hid ((hb7.block _ (ltOf HOB6.out)).trans HOB6.out)
    have HPB7 := hid ((hb7.block _ (ltOf HPB6.out)).trans HPB6.out)
    have hb6 : v.heap.size ≤ v6.heap.size := HU6.out.size
    clear hl7 hb7 HU6 HOB6 HPB6 o4
    refine HN.out _ _ (fun w5 hk5 hs5 => ?_)
    clear HN Ql
    have hS5 := hS4.kept hk5
    have hK5 := hK4.trans hk5
    clear hK4 hk5 hS4 hv6
    generalize v6.heap.size = LB at *
    -- the program's reader is fed
    refine wpE_seq (wpE_region ?_)
    simp only [List.size_toArray, List.length_cons, List.length_nil, Nat.reduceAdd, Nat.zero_add, List.range, List.range.loop]
    refine opsE_one rfl (by rfl) (by kernel_rfl) hS5 (fun v8 hv8 => ⟨.pointer (some ⟨PB, 0, none⟩), ?_, fun w6 hk6 hs6 => ?_⟩)
    · go_simp
    have e8 : v8.heap = v7.heap := Sim.heap hv8 hs5
    walk_nrm
    have hS6 := hS5.kept hk6
    have hK6 := hK5.trans hk6
    refine opsE_one rfl (by rfl) (by kernel_rfl) hS6 (fun v9 hv9 => ⟨.pointer (some ⟨r.R, 0, none⟩), ?_, fun w7 hk7 hs7 => ?_⟩)
    · have c9 := cellOf (W := v9) (j := 0) (by rw [(Sim.heap hv9 hs6).trans e8]; exact HPB7.out) rfl
      go_simp
    have e9 : v9.heap = v7.heap := (Sim.heap hv9 hs6).trans e8
    walk_nrm
    have hS7 := hS6.kept hk7
    have hK7 := hK6.trans hk7
    refine opsE_one rfl (by rfl) (by kernel_rfl) hS7 (fun v10 hv10 => ⟨.slice (some ⟨LB, 0, none⟩) s.size (s.size + 3), ?_, fun w8 hk8 hs8 => ?_⟩)
    · go_simp
    have e10 : v10.heap = v7.heap := (Sim.heap hv10 hs7).trans e9
    walk_nrm
    have hS8 := hS7.kept hk8
    have hK8 := hK7.trans hk8
    clear hS5 hS6 hS7 hK5 hK6 hK7 hk6 hk7 hk8 hv8 hv9 hv10 hs5 hs6 hs7 e8 e9
    have HU10 := hid (HU7.out.heap e10)
    have HL10 : Hid (v10.heap[LB]? = some (.cells (lb s 3).toArray 5)) := by rw [e10]; exact HL7.out
    have HOB10 : Hid (v10.heap[v.heap.size]? = some (.cells #[.int .i64 5, .int .i64 a, .int .i64 b, .int .i64 c, .string s, .string t] 76)) := by rw [e10]; exact HOB7.out
    have HPB10 : Hid (v10.heap[PB]? = some (.cells #[.pointer (some ⟨r.R, 0, none⟩), .pointer (some ⟨r.Q, 0, none⟩)] 179)) := by rw [e10]; exact HPB7.out
    clear HU7 HL7 HOB7 HPB7 e10
    have hA := (HU10.out.rw HR.out).rd z r hr
    have hA0 := HR.out.rd z r hr
    obtain ⟨bodies, q, tt, hC⟩ := hA.tw.any s.data.toList
    have hsl : s.size = s.data.toList.length := Lib.size_eq s
    have hfew := feeds_few hC hA.tw.ok
    have hRd : Cu.RdAt r.R r.p r.tl r.pv w8 := ⟨hs8.real hS8 hA.rR (by decide), real_row hs8 hS8 (by decide) hA.part, hA.tw.ok⟩
    have hBy : Cu.BytesAt w8 (some ⟨LB, 0, none⟩) s.data.toList (s.size + 3) r.pv := by
      refine .inr ⟨LB, 0, _, rfl, hs8.real hS8 HL10.out (by decide), fun i hi => ?_, by omega, by unfold maxLen; omega, fun e => by have := hA0.lt (.inr (.inr (.inl e))); omega⟩
      rw [List.getElem?_toArray, lb, Nat.zero_add, List.getElem?_append_left (by rw [bcells_len]; exact hi), bcells, List.getElem?_map, List.getElem?_eq_getElem hi]
      rfl
    have hfd := Cu.feed_E (Post := Post) hRd hBy (shunW_of hS8) hC (by omega)
    rw [← hsl] at hfd
    have HSL := hid hsl
    clear hsl
    refine opsE_call rfl (by rfl) rfl (by walk_nrm; exact hfd) (fun x w9 Sh' hx => ?_)
    obtain ⟨pv', sent, lv, rfl, hF⟩ := hx
    obtain ⟨cd, hcd, hcd4⟩ : ∃ cd : Nat, (if tt then (4 : Int) else 0) = (cd : Int) ∧ cd ≤ 4 := by cases tt; exact ⟨0, rfl, by omega⟩; exact ⟨4, rfl, by omega⟩
    rw [hcd]
    have HCD := hid hcd
    clear hcd
    have hS9 := shunT_of hF.shun
    have hTop' : ∀ l, Sh' l → ∃ a : Addr, l = .cell a ∧ A ≤ a.block := fun l hl => by
      rcases hF.more l hl with h | ⟨a, e, h⟩
      · exact hTop l h
      · have e8 := hs8.size
        have e10 := HU10.out.size
        exact ⟨a, e, by omega⟩
    have hLor9 : Lor L WB w w9 := by
      have h8 : Lor L WB w w8 := Los.real (Bs := BsOf Shun) (v := v) (v' := v10) ⟨HU10.out.size, fun i hi _ => HU10.out.block i (by omega)⟩ hK8 hv hs8
      have e8 := hs8.size
      have e10 := HU10.out.size
      refine ⟨Nat.le_trans h8.1 hF.size, fun i hi hn => (hF.keep i (by omega) (fun e => ?_) (fun e => ?_)).trans (h8.2 i hi hn)⟩
      · have := (HR.out.sep z r hr r.R (.inl rfl)).2
        omega
      · have := (HR.out.sep z r hr i (.inr (.inr (.inl e)))).2
        omega
    clear hfd hRd hBy hK8 hv
    walk_nrm
    refine opsE_one rfl (by rfl) (by kernel_rfl) hS9 (fun v11 hv11 => ⟨.tuple #[lv, .int .i64 cd], ?_, fun w10 hk10 hs10 => ?_⟩)
    · go_simp
    have hFd : Fd v10 v11 r bodies q tt pv' sent lv := fed_lone hS8 hs8 hF hv11
    have HFD := hid hFd
    clear hFd hF hs8 hS8
    walk_nrm
    have hS10 := hS9.kept hk10
    refine opsE_one rfl (by rfl) (by kernel_rfl) hS10 (fun v12 hv12 => ⟨lv, ?_, fun w11 hk11 hs11 => ?_⟩)
    · go_simp
    have e12 : v12.heap = v11.heap := Sim.heap hv12 hs10
    walk_nrm
    have hS11 := hS10.kept hk11
    refine opsE_one rfl (by rfl) (by kernel_rfl) hS11 (fun v13 hv13 => ⟨.int .i64 cd, ?_, fun w12 hk12 hs12 => ?_⟩)
    · go_simp
    have e13 : v13.heap = v11.heap := (Sim.heap hv13 hs11).trans e12
    walk_nrm
    have hS12 := hS11.kept hk12
    refine opsE_one rfl (by rfl) (by kernel_rfl) hS12 (fun v14 hv14 => ⟨lv, ?_, fun w13 hk13 hs13 => ?_⟩)
    · go_simp
    have e14 : v14.heap = v11.heap := (Sim.heap hv14 hs12).trans e13
    walk_nrm
    have hS13 := hS12.kept hk13
    refine opsE_one rfl (by rfl) (by kernel_rfl) hS13 (fun v15 hv15 => ⟨.int .i64 cd, ?_, fun w14 hk14 hs14 => ?_⟩)
    · go_simp
    have e15 : v15.heap = v11.heap := (Sim.heap hv15 hs13).trans e14
    walk_nrm
    have hS14 := hS13.kept hk14
    have hK14 := (((hk10.trans hk11).trans hk12).trans hk13).trans hk14
    have hLor14 : Lor L WB w w14 := ⟨Nat.le_trans hLor9.1 hK14.grow, fun i hi hn => (Sim.stay hK14 hv11 hs14 (by rw [e15])).trans (hLor9.2 i hi hn)⟩
    clear hk10 hk11 hk12 hk13 hk14 hS9 hS10 hS11 hS12 hS13 hs10 hs11 hs12 hs13 hv11 hv12 hv13 hv14 hv15 e12 e13 e14 hLor9
    refine opsE_nil ?_
    show wpE _ _ _ _ _ _ _ _
    -- the rest
    refine wpE_fin hfn (by kernel_rfl) hS14 rfl [] (fun v16 hv16w Ql hn hr' he => ?_)
    have HRT := hid hr'
    have HFD16 := hid (HFD.out.heap ((Sim.heap hv16w hs14).trans e15))
    clear hn hr' he HFD e15 hs14 v15 v11 v12 v13 v14
    obtain ⟨hmd, hms, hA10, hQ16, hall16⟩ := Mdl.of HR.out hr HU10.out.size HU10.out.block HL10.out HOB10.out hb6 (Nat.le_refl _) HFD16.out
    obtain ⟨la0, lc0, hlv, hli⟩ := hmd.told
    subst hlv
    have hbod : bodies = sent.map (·.1) := HFD16.out.told.symm
    subst hbod
    have hsl : s.size = s.data.toList.length := HSL.out
    have HPB16 : Hid (v16.heap[PB]? = some (.cells #[.pointer (some ⟨r.R, 0, none⟩), .pointer (some ⟨r.Q, 0, none⟩)] 179)) := by
      refine (HFD16.out.keep PB _ _ HPB10.out (by decide) (fun e => ?_) (fun e => ?_)).trans HPB10.out
      · have := hA0.lt (.inl e)
        omega
      · have := hA0.lt (.inr (.inr (.inl e)))
        omega
    have p1 := cellOf (j := 1) HPB16.out rfl
    have o4 := cellOf (j := 4) hmd.op rfl
    have hconv := Lib.run_convert_string_bytes (P := Tryz.prog) v16 9 57 5 s Tryz.underlying9 Tryz.underlying57 Tryz.underlying5
    have HV := hid (below_bytesF v16 s)
    have H98 := ref_fed (Lib.bytesWorld v16 5 s) r v16.heap.size (grownCap v16 s.size 0 5) s.data.toList _ q tt ((HV.out.block _ (ltOf hQ16)).trans hQ16) (ownsRow_below hall16 HV.out) (bytes_atF v16 s) (by have := hA0.len; omega) hA0.tw hC
    rw [← hsl, HCD.out] at H98
    simp only [List.length_map] at H98
    have HMD := hid hmd
    have HMS := hid hms
    have HQ16 := hid hQ16
    have HALL16 := hid hall16
    have HLI := hid hli
    have HFW := hid hfew
    have HSM := hid (feeds_small hA0.tw hC)
    have HA0 := hid hA0
    have HH98 := hid H98
    have hls := HFW.out
    rw [List.length_map, ← hsl] at hls
    clear hmd hms hQ16 hall16 hli hfew hA hA0 hA10 hC H98 hsl hb6
    have hVs : (Lib.bytesWorld v16 5 s).heap.size = v16.heap.size + 1 := Lib.bytesWorld_size v16 5 s
    have HVS := hid hVs
    have hvU : v.heap.size ≤ v10.heap.size := HU10.out.size
    have hv16 : v10.heap.size ≤ v16.heap.size := HFD16.out.size
    have hQL : L ≤ r.Q := (HR.out.sep z r hr r.Q (.inr (.inl rfl))).2
    have HAL : Hid (∀ g, r.av.ownBlock = some g → L ≤ g) := fun g hg => (HR.out.sep z r hr g (.inr (.inr (.inr hg)))).2
    have hlen0 : r.all.length ≤ tot0 := HA0.out.len
    clear hVs p1
    have p1 := cellOf (j := 1) HPB16.out rfl
    go_wp2_with (first
      | (go_at_call 98; refine HH98.out.mono ?_; rintro e v17 ⟨av', la, lc, all', told', rfl, k1, k2, k3, k4, k5, k6, k7, k8⟩
         rw [HVS.out] at k5 k7 k8
         have HM17 : Hid (Mdl v17 L WB S x0 x1 (some ⟨gl, 0, none⟩) rc rds tot0 N0 M0 z r q tt pv' sent (.slice la0 sent.length lc0) LB s v.heap.size #[.int .i64 5, .int .i64 a, .int .i64 b, .int .i64 c, .string s, .string t] v10.heap.size) :=
           HMD.out.keepQ HR.out HMS.out hvU ⟨_, HQ16.out⟩ (fun g hg => own_type HALL16.out hg) (by omega) (fun g hg h1 h2 => (k7 g (by omega) h1 h2).trans (HV.out.block g hg))
         have HLS17 : Hid (Los L WB v16 v17) := ⟨by omega, fun i hi _ => (k7 i (by omega) (fun e => by omega) (fun e => by have := HAL.out i e; omega)).trans (HV.out.block i (by omega))⟩
         have HQ17 := hid k1
         have HA17 := hid k2
         have HTW := hid k3
         have HAV := hid k5
         have H99 : Hid (Calls Tryz.prog 99 #[.slice la0 sent.length lc0, .slice la sent.length lc] v17 fun e w' => e = .returned (.bool true) ∧ Below v17.heap.size v17 w') := by
           obtain ⟨la1, lc1, heq, hli17⟩ := HM17.out.told
           cases heq
           have h := sameBodies_any v17 la0 la lc0 lc 0 _ (sent.map (·.1)) hli17 k6 (by rw [List.length_map]; omega)
           rw [List.length_map] at h
           exact h
         clear k1 k2 k3 k5 k6 k7 k8 p1 o4 HH98 HMD HLI))
    refine H99.out.mono ?_
    rintro e v18 ⟨rfl, hb18⟩
    have HM18 := hid (HM17.out.below hb18)
    have HLS18 : Hid (Los L WB v16 v18) := HLS17.out.trans (Below.los hb18 (by have := HLS17.out.1; omega))
    have HFIN := hid (HM18.out.fin (G := v16.heap.size + 1) (av' := av') (all' := all') (told' := told') (tot' := tot0 + s.size) HR.out HMS.out hvU (by omega) HAV.out (fun g hg => by obtain ⟨c1, t1⟩ := own_type (RowIs.row HFD16.out.list) hg; have := ltOf t1; omega) (fun g hg => by obtain ⟨c1, t1⟩ := own_type (RowIs.row HFD16.out.part) hg; have := ltOf t1; omega)
      (fun x hx g hg => by obtain ⟨g', m1, m2, m3, m4⟩ := HFD16.out.msg x hx; rw [m2] at hg; cases hg; have := ltOf m3; show g' < _; omega) ((hb18.block _ (ltOf HQ17.out)).trans HQ17.out) (ownsRow_below HA17.out hb18) HTW.out (by omega) (by omega) (by omega) (by omega) (by omega) (fun x hx => by have := HSM.out x.1 (List.mem_map.2 ⟨x, hx, rfl⟩); omega) (by omega))
    clear hb18 HM17 HLS17 H99
    go_wp2_with (first
      | (go_at_call 84; refine (num_any _ cd (by omega) (by omega)).mono ?_; rintro e wn ⟨rfl, hwn⟩; have hwn2 := hwn.symm; clear hwn; subst hwn2)
      | (go_at_call 100; refine HFIN.out.mono ?_; rintro e v19 ⟨rfl, ho19, h92⟩; have o19 := cellOf (j := 4) ho19 rfl; have H92 := hid h92; clear ho19 h92 HFIN HM18)
      | (go_at_call 92; refine H92.out.mono ?_; rintro e v20 ⟨rfl, hrw, hlos⟩; have HRW := hid hrw; have HLS20 := hid hlos; clear hrw hlos H92 o19))
    refine HRT.out _ _ (fun w' hk' hs' => ?_)
    obtain ⟨S', rds', hrl, hrw⟩ := HRW.out
    have hlos := (HLS18.out.trans HLS20.out).real hk' hv16w hs'
    exact ⟨by simp, rfl, rfl, ⟨hS14.kept hk', hTop', _, S', _, _, rds', _, _, _, hs', hrw, by omega, by omega, by omega, by omega⟩, ⟨Nat.le_trans hLor14.1 hlos.1, fun i hi hn => (hlos.2 i hi hn).trans (hLor14.2 i hi hn)⟩⟩

end Go.Proofs.YtlghcldiboecoaaGreatDoor
