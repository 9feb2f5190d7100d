/- A step of the script. -/
import Derived.Test.YtlghcldiboecoaaGreatDoorPReads
import Derived.Test.YtlghcldiboecoaaGreatDoorQ08
set_option linter.unusedVariables false
namespace Go.Proofs.YtlghcldiboecoaaGreatDoor
open Go.RowKit Go.Pair

theorem Lor.trans {L WB : Nat} {w w' w'' : World} (h : Lor L WB w w') (h' : Lor L WB w' w'') : Lor L WB w w'' := ⟨Nat.le_trans h.1 h'.1, fun i hi hn => (h'.2 i hi hn).trans (h.2 i hi hn)⟩

set_option maxRecDepth 100000 in
set_option maxHeartbeats 8000000 in
theorem step_E {Post : Value → World → Prop} {Shun : Loc → Prop} {w : World} {A L WB : Nat} {x0 x1 : Value} {tot N M : Nat} (hJ : Jr A L WB x0 x1 tot N M w Shun) (hAL : A ≤ L) (k a b c : Int) (s t : ByteArray) (hk3 : 3 ≤ k) (hk5 : k ≤ 5) (ha : -9223372036854775808 ≤ a ∧ a ≤ 9223372036854775807) (hs : s.size ≤ 1048576) (htot : tot + s.size ≤ 1400000) (hN : N + s.size ≤ 900000000) (hM : M ≤ 900000000) :
    CallsE Tryz.prog Post 26 #[.pointer (some ⟨WB, 0, none⟩), opv k a b c s t] Shun w (fun x w' Sh' => x = .bool true ∧ Jr A L WB x0 x1 (tot + s.size) (N + s.size + 1) (M + 1) w' Sh' ∧ Lor L WB w w') := by
  obtain ⟨hS, hTop, v00, S, ra, rc, rds, tot0, N0, M0, hs00, hR00, ht0, hN0, hM0, hn0⟩ := hJ
  refine callsE_of_wpE (t := 4) Tryz.func26 (by rfl) rfl rfl ?_
  simp only [Tryz.ntmps26, List.size_toArray, List.length_cons, List.length_nil, Nat.reduceAdd, Nat.reduceSub, Array.replicate_succ, Array.replicate_zero, List.push_toArray, List.append_toArray, List.nil_append, List.cons_append]
  have hfn : ∃ f, Tryz.prog.funcs[26]? = some f := ⟨_, Tryz.func26⟩
  have h1n : ¬ k < 1 := by omega
  have h21 : ¬ 21 < k := by omega
  refine wpE_then hfn (by kernel_rfl) hS rfl [] (fun v hv Ql hn hr he => ?_)
  have HR := hid (hR00.heap (Sim.heap hv hs00))
  have HN := hid hn
  clear hn hr he
  clear hR00 hs00 v00
  have HU := hid (Up.of (below1 v (.cells #[.int .i64 k, .int .i64 a, .int .i64 b, .int .i64 c, .string s, .string t] 76)))
  have HOB := hid (heap_alloc_new v (.cells #[.int .i64 k, .int .i64 a, .int .i64 b, .int .i64 c, .string s, .string t] 76))
  go_wp2
  refine HN.out _ _ (fun w1 hk1 hs1 => ?_)
  clear HN Ql
  generalize v.alloc (.cells #[.int .i64 k, .int .i64 a, .int .i64 b, .int .i64 c, .string s, .string t] 76) = v1 at *
  have hS1 := hS.kept hk1
  have hL := HR.out.le
  refine wpE_seq (wpE_block ?_)
  -- in bounds
  refine wpE_then hfn (by kernel_rfl) hS1 rfl [] (fun v2 hv2 Ql hn hr he => ?_)
  have e2 : v2.heap = v1.heap := Sim.heap hv2 hs1
  have c0 := cellOf (W := v2) (j := 0) (by rw [e2]; exact HOB.out) rfl
  have HN := hid hn
  clear hn hr he
  go_wp2
  refine HN.out _ _ (fun w2 hk2 hs2 => ?_)
  clear HN Ql c0
  have hS2 := hS1.kept hk2
  refine wpE_cond (t := false) (by first | rfl | go_simp) ?_
  simp only [Bool.false_eq_true, if_false]
  refine wpE_then hfn (by kernel_rfl) hS2 rfl [] (fun v3 hv3 Ql hn hr he => ?_)
  have e3 : v3.heap = v1.heap := (Sim.heap hv3 hs2).trans e2
  have c0 := cellOf (W := v3) (j := 0) (by rw [e3]; exact HOB.out) rfl
  have HN := hid hn
  clear hn hr he
  by_cases hk : k = 3
  · subst hk
    go_wp2
    refine HN.out _ _ (fun w3 hk3 hs3 => ?_)
    clear HN Ql c0
    have hS3 := hS2.kept hk3
    refine wpE_cond (t := true) (by first | rfl | go_simp) ?_
    simp only [if_true]
    refine wpE_fin hfn (by kernel_rfl) hS3 rfl [] (fun v4 hv4 Ql hn hr he => ?_)
    have e4 : v4.heap = v1.heap := (Sim.heap hv4 hs3).trans e3
    have HRT := hid hr
    have HO4 : Hid (v4.heap[v.heap.size]? = some (.cells #[.int .i64 3, .int .i64 a, .int .i64 b, .int .i64 c, .string s, .string t] 76)) := by rw [e4]; exact HOB.out
    have HU4 := hid (HU.out.heap e4)
    have H52 := hid (rw_frame (HU4.out.rw HR.out) (by omega) a b c s t (by omega))
    clear hn hr he
    have d0 := cellOf (j := 0) HO4.out rfl
    have d1 := cellOf (j := 1) HO4.out rfl
    have d2 := cellOf (j := 2) HO4.out rfl
    have d3 := cellOf (j := 3) HO4.out rfl
    have d4 := cellOf (j := 4) HO4.out rfl
    have d5 := cellOf (j := 5) HO4.out rfl
    go_wp2_with (go_at_call 52; refine H52.out.mono ?_; rintro e v5 ⟨rfl, hrw, hlos⟩)
    refine HRT.out _ _ (fun w' hk' hs' => ?_)
    obtain ⟨S', hrw⟩ := hrw
    have hlos2 : Los L WB v v5 := Los.trans ⟨HU4.out.size, fun i hi _ => HU4.out.block i (by omega)⟩ hlos
    refine ⟨by simp, rfl, rfl, ⟨hS3.kept hk', hTop, _, S', ra, rc, rds, tot0, N0 + 1, M0, hs', hrw, by omega, by omega, by omega, by omega⟩, hlos2.real (((hk1.trans hk2).trans hk3).trans hk') hv hs'⟩
  · have hk4 : ¬ k ≤ 3 := by omega
    have hk6 : ¬ k = 6 := by omega
    go_wp2
    refine HN.out _ _ (fun w3 hk3 hs3 => ?_)
    clear HN Ql c0
    have hS3 := hS2.kept hk3
    refine wpE_cond (t := false) (by first | rfl | go_simp) ?_
    simp only [Bool.false_eq_true, if_false]
    refine wpE_then hfn (by kernel_rfl) hS3 rfl [] (fun v4 hv4 Ql hn hr he => ?_)
    have e4 : v4.heap = v1.heap := (Sim.heap hv4 hs3).trans e3
    have c0 := cellOf (W := v4) (j := 0) (by rw [e4]; exact HOB.out) rfl
    have HN := hid hn
    clear hn hr he
    go_wp2
    refine HN.out _ _ (fun w4 hk4' hs4 => ?_)
    clear HN Ql c0
    have hS4 := hS3.kept hk4'
    refine wpE_cond (t := true) (by first | rfl | go_simp) ?_
    simp only [if_true]
    refine wpE_seq (wpE_region ?_)
    simp only [List.size_toArray, List.length_cons, List.length_nil, Nat.reduceAdd, Nat.zero_add, List.range, List.range.loop]
    refine opsE_one rfl (by rfl) (by kernel_rfl) hS4 (fun v5 hv5 => ⟨.pointer (some ⟨WB, 0, none⟩), ?_, fun w5 hk5' hs5 => ?_⟩)
    · go_simp
    have e5 : v5.heap = v1.heap := (Sim.heap hv5 hs4).trans e4
    walk_nrm
    have hS5 := hS4.kept hk5'
    refine opsE_one rfl (by rfl) (by kernel_rfl) hS5 (fun v6 hv6 => ⟨opv k a b c s t, ?_, fun w6 hk6' hs6 => ?_⟩)
    · have HO6 : Hid (v6.heap[v.heap.size]? = some (.cells #[.int .i64 k, .int .i64 a, .int .i64 b, .int .i64 c, .string s, .string t] 76)) := by rw [(Sim.heap hv6 hs5).trans e5]; exact HOB.out
      have d0 := cellOf (j := 0) HO6.out rfl
      have d1 := cellOf (j := 1) HO6.out rfl
      have d2 := cellOf (j := 2) HO6.out rfl
      have d3 := cellOf (j := 3) HO6.out rfl
      have d4 := cellOf (j := 4) HO6.out rfl
      have d5 := cellOf (j := 5) HO6.out rfl
      go_simp
    have e6 : v6.heap = v1.heap := (Sim.heap hv6 hs5).trans e5
    walk_nrm
    have hS6 := hS5.kept hk6'
    have HU6 := HU.out.heap e6
    have hK6 := ((((hk1.trans hk2).trans hk3).trans hk4').trans hk5').trans hk6'
    have hJ6 : Jr A L WB x0 x1 tot N M w6 Shun := ⟨hS6, hTop, v6, S, ra, rc, rds, tot0, N0, M0, hs6, HU6.rw HR.out, ht0, hN0, hM0, hn0⟩
    have hlor : Lor L WB w w6 := Los.real (v := v) (v' := v6) ⟨HU6.size, fun i hi _ => HU6.block i (by omega)⟩ hK6 hv hs6
    have hrd := reads_E (Post := Post) hJ6 hAL k a b c s t (by omega) ha hs htot hN hM
    refine opsE_call rfl (by rfl) rfl (by walk_nrm; exact hrd) (fun x w7 Sh' hx => ?_)
    obtain ⟨rfl, hJ7, hlor7⟩ := hx
    walk_nrm
    obtain ⟨hS7, hTop7, v70, S7, ra7, rc7, rds7, tot7, N7, M7, hs70, hR7, ht7, hN7, hM7, hn7⟩ := hJ7
    refine opsE_one rfl (by rfl) (by kernel_rfl) hS7 (fun v7 hv7 => ⟨.bool true, ?_, fun w8 hk8 hs8 => ?_⟩)
    · go_simp
    walk_nrm
    refine opsE_nil ?_
    show wpE _ _ _ _ _ _ _ _
    refine wpE_ret ?_
    refine ⟨.inr rfl, rfl, rfl, ⟨hS7.kept hk8, hTop7, v7, S7, ra7, rc7, rds7, tot7, N7, M7, hs8, hR7.heap (Sim.heap hv7 hs70), ht7, by omega, hM7, hn7⟩, (hlor.trans hlor7).trans ⟨hk8.grow, fun i hi hn => Sim.stay hk8 hv7 hs8 rfl⟩⟩

end Go.Proofs.YtlghcldiboecoaaGreatDoor

/- The script is played beside leavers. -/
set_option linter.unusedVariables false
namespace Go.Proofs.YtlghcldiboecoaaGreatDoor
open Go.RowKit Go.Pair

theorem lone_cell {Shun : Loc → Prop} {w v : World} {A g j : Nat} {x : Value} (h : Sim (BsOf Shun) w v) (ht : ∀ l, Shun l → ∃ a : Addr, l = .cell a ∧ A ≤ a.block) (hg : g < A) (hc : w.cell? ⟨g, j, none⟩ = some x) : v.cell? ⟨g, j, none⟩ = some x := by
  rcases h.like g with ⟨_, e, _⟩ | ⟨⟨a, hs, e⟩, _⟩ | ⟨_, ⟨o, ho, hk⟩, _⟩
  · exact (World.cell?_of_block (w := w) (a := ⟨g, j, none⟩) e).trans hc
  · obtain ⟨a', e', h'⟩ := ht _ hs
    cases e'
    omega
  · exfalso
    unfold World.cell? at hc
    simp only [ho] at hc
    cases o <;> simp_all [okObj]

set_option maxRecDepth 8000 in
set_option maxHeartbeats 4000000 in
theorem opening_rd (w : World) : Calls Tryz.prog 25 #[] w fun e w' => (∃ g cs, e = .returned (.slice (some ⟨g, 0, none⟩) 17 17) ∧ w'.heap[g]? = some (.cells cs 76) ∧
    ∀ i, i < 17 → ∃ k : Int, cs[i * 6]? = some (.int .i64 k) ∧ (3 ≤ k → k ≤ 5 → ∃ s : ByteArray, cs[i * 6 + 1]? = some (.int .i64 0) ∧ cs[i * 6 + 2]? = some (.int .i64 0) ∧ cs[i * 6 + 3]? = some (.int .i64 0) ∧ cs[i * 6 + 4]? = some (.string s) ∧ cs[i * 6 + 5]? = some (.string ⟨#[]⟩) ∧ s.size ≤ 8)) ∧ Below w.heap.size w w' := by
  have HS := hid (fun W g hg => save_root W g hg)
  have HN := hid (heap_alloc_new w (.cells #[.string ⟨#[47]⟩, .string ⟨#[]⟩, .string ⟨#[]⟩, .int .i64 0, .int .i64 0, .int .i64 0] 115))
  have HB0 := hid (below1 w (.cells #[.string ⟨#[47]⟩, .string ⟨#[]⟩, .string ⟨#[]⟩, .int .i64 0, .int .i64 0, .int .i64 0] 115))
  go_enter Tryz.func25, Tryz.ntmps25
  go_wp2_with (go_at_call 51; refine (HS.out _ _ HN.out).mono ?_; rintro e w1 ⟨⟨ov, code, rfl, bs, hbl, ho⟩, hb⟩; obtain ⟨oa, oc, rfl⟩ := own_shape ho; have hcv := conv_own ho; have HB1 := hid hb; clear ho hb hbl)
  all_goals go_ret
  refine ⟨⟨w1.heap.size, _, rfl, heap_alloc_new _ _, fun i h2 => ?_⟩, ?_⟩
  · obtain rfl | rfl | rfl | rfl | rfl | rfl | rfl | rfl | rfl | rfl | rfl | rfl | rfl | rfl | rfl | rfl | rfl : i = 0 ∨ i = 1 ∨ i = 2 ∨ i = 3 ∨ i = 4 ∨ i = 5 ∨ i = 6 ∨ i = 7 ∨ i = 8 ∨ i = 9 ∨ i = 10 ∨ i = 11 ∨ i = 12 ∨ i = 13 ∨ i = 14 ∨ i = 15 ∨ i = 16 := by omega
    all_goals refine ⟨_, rfl, fun h3 h5 => ?_⟩
    all_goals first
      | exact absurd h3 (by decide)
      | exact absurd h5 (by decide)
      | exact ⟨_, rfl, rfl, rfl, rfl, rfl, by decide⟩
  · have hb := HB0.out.trans (HB1.out.mono HB0.out.size)
    exact hb.alloc hb.size _

/-- A new caller. -/
theorem Rw.fresh {v : World} {L WB : Nat} {gv gt : Value} (hb : v.heap[WB]? = some (.cells #[gv, gt, .slice none 0 0, .slice none 0 0, .slice none 0 0, .slice none 0 0, .slice none 0 0, .slice none 0 0] 73)) (hL : WB < L) (hv : L ≤ v.heap.size) : Rw v L WB (fun _ => False) gv gt none 0 [] 0 0 0 :=
  ⟨⟨none, 0, [], none, 0, [], ⟨hb, World.ownsRow_nil _ _ _ _, World.ownsRow_nil _ _ _ _, hv, fun i hi => by omega, fun i hi => by omega, fun g h => h.elim⟩⟩, World.ownsRow_nil _ _ _ _, fun i r h => by simp at h, fun i j r s h => by simp at h, fun i r h => by simp at h, fun g h => h.elim, hL⟩

noncomputable def PAct (s : Nat → Value) : Act := { tmps := #[s 0, s 1, s 2, s 3, s 4, s 5, s 6, s 7, s 8, s 9, s 10, s 11, s 12, s 13, s 14, s 15, s 16, s 17, s 18, s 19, s 20, s 21, s 22, s 23, s 24, s 25, s 26, s 27, s 28, s 29, s 30, s 31, s 32, s 33, s 34, s 35, s 36, s 37, s 38, s 39, s 40, s 41, s 42, s 43, s 44, s 45, s 46, s 47, s 48, s 49, s 50, s 51, s 52, s 53, s 54, s 55, s 56, s 57, s 58, s 59, s 60, s 61, s 62, s 63, s 64, s 65, s 66, s 67, s 68, s 69, s 70, s 71, s 72, s 73, s 74, s 75, s 76, s 77, s 78, s 79, s 80, s 81, s 82, s 83, s 84, s 85, s 86, s 87, s 88, s 89, s 90, s 91], defers := [] }
theorem pget {a : Act} {P : (Nat → Value) → Prop} (h : a = PAct fun j => a.tmps.getD j undef) (hp : P fun j => a.tmps.getD j undef) : ∃ s', a = PAct s' ∧ P s' := ⟨_, h, hp⟩

/-- What stands between two pieces. -/
theorem wpE_cut {Post : Value → World → Prop} {fn : FuncId} {Q : Exit → Act → World → (Loc → Prop) → Prop} {a : Act} {w : World} {Shun : Loc → Prop} {x y : Code} (Pm : Act → World → (Loc → Prop) → Prop) (h2 : ∀ a w S, Pm a w S → wpE Tryz.prog Post fn y Q a w S) (h1 : wpE Tryz.prog Post fn x (Then Pm Q) a w Shun) : wpE Tryz.prog Post fn (.seq x y) Q a w Shun :=
  wpE_seq (wpE_mono h1 fun e a w S q => by
    cases e with
    | normal => exact h2 a w S q
    | _ => exact q)

theorem Jr.mono {A L WB : Nat} {x0 x1 : Value} {tot N M tot' N' M' : Nat} {w : World} {Shun : Loc → Prop} (h : Jr A L WB x0 x1 tot N M w Shun) (h1 : tot ≤ tot') (h2 : N ≤ N') (h3 : M ≤ M') : Jr A L WB x0 x1 tot' N' M' w Shun := by
  obtain ⟨hS, hTop, v, S, ra, rc, rds, tot0, N0, M0, hs, hR, k1, k2, k3, k4⟩ := h
  exact ⟨hS, hTop, v, S, ra, rc, rds, tot0, N0, M0, hs, hR, by omega, by omega, by omega, by omega⟩

/-- Behind a piece of code that changes nothing. -/
theorem Jr.kept {A L WB : Nat} {x0 x1 : Value} {tot N M : Nat} {w w' v v' : World} {Shun : Loc → Prop} (h : Jr A L WB x0 x1 tot N M w Shun) (hk : Kept (BsOf Shun) w w') (hv : Sim (BsOf Shun) w v) (hv' : Sim (BsOf Shun) w' v') (hb : Up v v') : Jr A L WB x0 x1 tot N M w' Shun ∧ Lor L WB w w' := by
  obtain ⟨hS, hTop, v0, S, ra, rc, rds, tot0, N0, M0, hs, hR, k1, k2, k3, k4⟩ := h
  have hR' := hR.heap (Sim.heap hv hs)
  exact ⟨⟨hS.kept hk, hTop, v', S, ra, rc, rds, tot0, N0, M0, hv', hb.rw hR', k1, k2, k3, k4⟩, ⟨hk.grow, fun i hi _ => Sim.stay hk hv hv' (hb.block i (by have := hR'.le; omega))⟩⟩

theorem Up.same {v v' : World} (h : v'.heap = v.heap) : Up v v' := ⟨by rw [h]; exact Nat.le_refl _, fun i _ => by rw [h]⟩
end Go.Proofs.YtlghcldiboecoaaGreatDoor
