/- The script is played beside leavers. -/
import Derived.Test.YtlghcldiboecoaaGreatDoorQ47
set_option linter.unusedVariables false
namespace Go.Proofs.YtlghcldiboecoaaGreatDoor
open Go.RowKit Go.Pair

set_option maxRecDepth 100000 in
set_option maxHeartbeats 16000000 in
theorem plays_E {Post : Value → World → Prop} {Shun : Loc → Prop} {w : World} {A : Nat} (hS : ShunT 271 Shun w) (hTop : ∀ l, Shun l → ∃ a : Addr, l = .cell a ∧ A ≤ a.block) (hA : A ≤ w.heap.size) (ga ta sa : Option Addr) (gn gc tn tc sn sc : Nat) (hsn : sn ≤ 1048576) (T : Nat → Nat) (hT0 : T 0 = 0) (hTn : ∀ i, i ≤ sn → T i ≤ 1048576)
    (HSC : Hid (∀ i, i < sn → ∃ (g o : Nat) (k a b c : Int) (s t : ByteArray), sa = some ⟨g, o, none⟩ ∧ g < A ∧ sn ≤ sc ∧ w.cell? ⟨g, o + i * 6, none⟩ = some (.int .i64 k) ∧ w.cell? ⟨g, o + i * 6 + 1, none⟩ = some (.int .i64 a) ∧ w.cell? ⟨g, o + i * 6 + 2, none⟩ = some (.int .i64 b) ∧ w.cell? ⟨g, o + i * 6 + 3, none⟩ = some (.int .i64 c) ∧ w.cell? ⟨g, o + i * 6 + 4, none⟩ = some (.string s) ∧ w.cell? ⟨g, o + i * 6 + 5, none⟩ = some (.string t) ∧ (-9223372036854775808 ≤ a ∧ a ≤ 9223372036854775807) ∧ T i + s.size ≤ T (i + 1))) :
    CallsE Tryz.prog Post 10 #[.agg #[.slice ga gn gc, .slice ta tn tc], .slice sa sn sc, .int .i64 3, .int .i64 5] Shun w (fun x w' Sh' => x = .bool true ∧ ShunT 271 Sh' w' ∧ (∀ l, Sh' l → ∃ a : Addr, l = .cell a ∧ A ≤ a.block) ∧ w.heap.size ≤ w'.heap.size ∧ ∀ i, i < w.heap.size → w'.heap[i]? = w.heap[i]?) := by
  refine callsE_of_wpE (t := 8) Tryz.func10 (by rfl) rfl rfl ?_
  simp only [Tryz.ntmps10, List.size_toArray, List.length_cons, List.length_nil, Nat.reduceAdd, Nat.reduceSub, Array.replicate_succ, Array.replicate_zero, List.push_toArray, List.append_toArray, List.nil_append, List.cons_append]
  have hfn : ∃ f, Tryz.prog.funcs[10]? = some f := ⟨_, Tryz.func10⟩
  -- the goods
  refine wpE_then hfn (by kernel_rfl) hS rfl [] (fun v hv Ql hn hr he => ?_)
  have HN := hid hn
  clear hn hr he
  have HB1 := hid (below1 v (.cells #[.slice ga gn gc, .slice ta tn tc] 25))
  have HG1 := hid (heap_alloc_new v (.cells #[.slice ga gn gc, .slice ta tn tc] 25))
  go_wp2
  refine HN.out _ _ (fun w1 hk1 hs1 => ?_)
  clear HN Ql
  generalize v.alloc (.cells #[.slice ga gn gc, .slice ta tn tc] 25) = v1 at *
  have hS1 := hS.kept hk1
  have HU1 := hid (Up.of HB1.out)
  clear HB1
  -- the first caller
  refine wpE_then hfn (by kernel_rfl) hS1 rfl [] (fun v2 hv2 Ql hn hr he => ?_)
  have e2 : v2.heap = v1.heap := Sim.heap hv2 hs1
  have HU2 := hid (HU1.out.heap e2)
  have HG2 : Hid (v2.heap[v.heap.size]? = some (.cells #[.slice ga gn gc, .slice ta tn tc] 25)) := by rw [e2]; exact HG1.out
  have HN := hid hn
  clear hn hr he HU1 HG1 e2
  go_wp2_with (go_at_call 24; refine (known_any _).mono ?_; rintro e v3 ⟨⟨ka, kc, gtk, rfl, ⟨y1, y2, y3, rfl⟩, hka, hkc⟩, hb⟩; have HU3 := hid (HU2.out.trans (Up.of hb)); have HG3 := hid ((hb.block _ (ltOf HG2.out)).trans HG2.out); clear hb hka hkc)
  have HU4 := hid (HU3.out.trans (Up.of (below1 v3 (.cells #[.slice (some ⟨ka, 0, none⟩) 1 1, .slice y1 y2 y3, .slice none 0 0, .slice none 0 0, .slice none 0 0, .slice none 0 0, .slice none 0 0, .slice none 0 0] 73))))
  have HG4 := hid (((below1 v3 (.cells #[.slice (some ⟨ka, 0, none⟩) 1 1, .slice y1 y2 y3, .slice none 0 0, .slice none 0 0, .slice none 0 0, .slice none 0 0, .slice none 0 0, .slice none 0 0] 73)).block _ (ltOf HG3.out)).trans HG3.out)
  have HW4 := hid (heap_alloc_new v3 (.cells #[.slice (some ⟨ka, 0, none⟩) 1 1, .slice y1 y2 y3, .slice none 0 0, .slice none 0 0, .slice none 0 0, .slice none 0 0, .slice none 0 0, .slice none 0 0] 73))
  have hgw : v.heap.size < v3.heap.size := ltOf HG3.out
  refine HN.out _ _ (fun w2 hk2 hs2 => ?_)
  clear HN Ql HU2 HG2 HU3 HG3
  generalize v3.alloc (.cells #[.slice (some ⟨ka, 0, none⟩) 1 1, .slice y1 y2 y3, .slice none 0 0, .slice none 0 0, .slice none 0 0, .slice none 0 0, .slice none 0 0, .slice none 0 0] 73) = v4 at *
  generalize v3.heap.size = WB at *
  have hS2 := hS1.kept hk2
  have hK2 := hk1.trans hk2
  clear hk1 hk2 hv2 hs1 hS1
  -- what every program plays
  refine wpE_then hfn (by kernel_rfl) hS2 rfl [] (fun v5 hv5 Ql hn hr he => ?_)
  have e5 : v5.heap = v4.heap := Sim.heap hv5 hs2
  have HU5 := hid (HU4.out.heap e5)
  have HG5 : Hid (v5.heap[v.heap.size]? = some (.cells #[.slice ga gn gc, .slice ta tn tc] 25)) := by rw [e5]; exact HG4.out
  have HW5 : Hid (v5.heap[WB]? = some (.cells #[.slice (some ⟨ka, 0, none⟩) 1 1, .slice y1 y2 y3, .slice none 0 0, .slice none 0 0, .slice none 0 0, .slice none 0 0, .slice none 0 0, .slice none 0 0] 73)) := by rw [e5]; exact HW4.out
  have HN := hid hn
  clear hn hr he HU4 HG4 HW4 e5
  go_wp2_with (go_at_call 25; refine (opening_rd _).mono ?_; rintro e v6 ⟨⟨sg, cs, rfl, hsg, hcs⟩, hb⟩; have HU6 := hid (HU5.out.trans (Up.of hb)); have HG6 := hid ((hb.block _ (ltOf HG5.out)).trans HG5.out); have HW6 := hid ((hb.block _ (ltOf HW5.out)).trans HW5.out); have HSG := hid hsg; have HCS := hid hcs; clear hb hsg hcs)
  refine HN.out _ _ (fun w3 hk3 hs3 => ?_)
  clear HN Ql HU5 HG5 HW5
  have hS3 := hS2.kept hk3
  have hK3 := hK2.trans hk3
  clear hK2 hk3 hv5 hs2 hS2
  have hsz3 := hs3.size
  have hszv := hv.size
  -- the real memory: what stood at the start
  have hold3 : ∀ i, i < w.heap.size → w3.heap[i]? = w.heap[i]? := fun i hi => Sim.stay hK3 hv hs3 (HU6.out.block i (by omega))
  have hG3 : w3.heap[v.heap.size]? = some (.cells #[.slice ga gn gc, .slice ta tn tc] 25) := hs3.real hS3 HG6.out (by decide)
  have hsg3 : w3.heap[sg]? = some (.cells cs 76) := hs3.real hS3 HSG.out (by decide)
  have hWBl := ltOf HW6.out
  have hJ3 : Jr A v6.heap.size WB (.slice (some ⟨ka, 0, none⟩) 1 1) (.slice y1 y2 y3) 0 0 0 w3 Shun := ⟨hS3, hTop, v6, _, none, 0, [], 0, 0, 0, hs3, Rw.fresh HW6.out hWBl (Nat.le_refl _), Nat.le_refl _, Nat.le_refl _, Nat.le_refl _, Nat.le_refl _⟩
  have hsgl := ltOf HSG.out
  have hsgW : sg ≠ WB := fun e => by
    have := HSG.out
    rw [e, HW6.out] at this
    simp at this
  have hUs := HU6.out.size
  have hAL1 : A ≤ v6.heap.size := by omega
  have HSZ3 := hid hsz3
  have HSZV := hid hszv
  clear HU6 HG6 HW6 HSG hK3 hs3 hv hsz3 hszv
  generalize v6.heap.size = L1 at *
  generalize v.heap.size = GB at *
  refine wpE_cut (fun a w' Sh' => ∃ s : Nat → Value, a = PAct s ∧ s 1 = .slice sa sn sc ∧ s 2 = .int .i64 3 ∧ s 3 = .int .i64 5 ∧ s 4 = .pointer (some ⟨GB, 0, none⟩) ∧ s 8 = .bool false ∧ ShunT 271 Sh' w' ∧ (∀ l, Sh' l → ∃ a : Addr, l = .cell a ∧ A ≤ a.block) ∧ Lor L1 WB w3 w') ?rest ?loop
  case rest =>
    rintro a w4 Sh4 ⟨s, rfl, g1, g2, g3, g4, g8, hS4, hTop4, hlor4⟩
    have hGl : GB < L1 := by omega
    have hG4 : w4.heap[GB]? = some (.cells #[.slice ga gn gc, .slice ta tn tc] 25) := (hlor4.2 GB hGl (by omega)).trans hG3
    have hold4 : ∀ i, i < w.heap.size → w4.heap[i]? = w.heap[i]? := fun i hi => by
      have := HSZV.out
      exact (hlor4.2 i (by omega) (by omega)).trans (hold3 i hi)
    have hsz4 : w.heap.size ≤ w4.heap.size := by
      have := HSZV.out
      have := ltOf hG4
      omega
    clear HCS hJ3 hsg3 hsgl hsgW hlor4 hG3 hold3 hS3 hUs hAL1 HSZ3
    simp only [PAct, g1, g2, g3, g4, g8]
    clear g1 g2 g3 g4 g8
    -- the caller
    refine wpE_then hfn (by kernel_rfl) hS4 rfl [] (fun v7 hv7 Ql hn hr he => ?_)
    have hb7 := hv7.lone hS4 hG4 (by decide)
    have c0 := cellOf (j := 0) hb7 rfl
    have c1 := cellOf (j := 1) hb7 rfl
    clear hb7
    have HN := hid hn
    clear hn hr he
    have HB8 := hid (below1 v7 (.cells #[.slice ga gn gc, .slice ta tn tc, .slice none 0 0, .slice none 0 0, .slice none 0 0, .slice none 0 0, .slice none 0 0, .slice none 0 0] 73))
    have HW8 := hid (heap_alloc_new v7 (.cells #[.slice ga gn gc, .slice ta tn tc, .slice none 0 0, .slice none 0 0, .slice none 0 0, .slice none 0 0, .slice none 0 0, .slice none 0 0] 73))
    go_wp2
    refine HN.out _ _ (fun w5 hk5 hs5 => ?_)
    clear HN Ql c0 c1
    have hS5 := hS4.kept hk5
    have hsz7 := hv7.size
    have hold5 : ∀ i, i < w.heap.size → w5.heap[i]? = w.heap[i]? := fun i hi => (Sim.stay hk5 hv7 hs5 (HB8.out.block i (by omega))).trans (hold4 i hi)
    have hJ5 : Jr A (v7.heap.size + 1) v7.heap.size (.slice ga gn gc) (.slice ta tn tc) 0 0 0 w5 Sh4 := ⟨hS5, hTop4, _, _, none, 0, [], 0, 0, 0, hs5, Rw.fresh HW8.out (Nat.lt_succ_self _) (by simp), Nat.le_refl _, Nat.le_refl _, Nat.le_refl _, Nat.le_refl _⟩
    have hAL2 : A ≤ v7.heap.size + 1 := by omega
    have hAW : A ≤ v7.heap.size := by omega
    have hwW : w.heap.size ≤ v7.heap.size := by omega
    have hsz5 : w.heap.size ≤ w5.heap.size := Nat.le_trans hsz4 hk5.grow
    clear HB8 HW8 hk5 hs5 hv7 hS4 hS5 hold4 hG4 hsz4 hsz7 hTop4 hS hTop
    generalize v7.heap.size = W2 at *
    have HS5 : Hid (∀ i, i < sn → ∃ (g o : Nat) (k a b c : Int) (s t : ByteArray), sa = some ⟨g, o, none⟩ ∧ g < A ∧ sn ≤ sc ∧ w5.cell? ⟨g, o + i * 6, none⟩ = some (.int .i64 k) ∧ w5.cell? ⟨g, o + i * 6 + 1, none⟩ = some (.int .i64 a) ∧ w5.cell? ⟨g, o + i * 6 + 2, none⟩ = some (.int .i64 b) ∧ w5.cell? ⟨g, o + i * 6 + 3, none⟩ = some (.int .i64 c) ∧ w5.cell? ⟨g, o + i * 6 + 4, none⟩ = some (.string s) ∧ w5.cell? ⟨g, o + i * 6 + 5, none⟩ = some (.string t) ∧ (-9223372036854775808 ≤ a ∧ a ≤ 9223372036854775807) ∧ T i + s.size ≤ T (i + 1)) := fun i hi => by
      obtain ⟨g, o, k, a, b, c, s, t, h1, h2, h3, k0, k1, k2, k3, k4, k5, h4, h5⟩ := HSC.out i hi
      have hc : ∀ (j : Nat) (x : Value), w.cell? ⟨g, j, none⟩ = some x → w5.cell? ⟨g, j, none⟩ = some x := fun j x hx => (World.cell?_of_block (w := w) (a := ⟨g, j, none⟩) (hold5 g (by omega))).trans hx
      exact ⟨g, o, k, a, b, c, s, t, h1, h2, h3, hc _ _ k0, hc _ _ k1, hc _ _ k2, hc _ _ k3, hc _ _ k4, hc _ _ k5, h4, h5⟩
    clear HSC
    refine wpE_cut (fun a w' Sh' => ∃ s : Nat → Value, a = PAct s ∧ ShunT 271 Sh' w' ∧ (∀ l, Sh' l → ∃ a : Addr, l = .cell a ∧ A ≤ a.block) ∧ Lor (W2 + 1) W2 w5 w') ?rest2 ?loop2
    case rest2 =>
      rintro a w6 Sh6 ⟨s, rfl, hS6, hTop6, hlor6⟩
      simp only [PAct]
      refine wpE_fin hfn (by kernel_rfl) hS6 rfl [] (fun v8 hv8 Ql hn hr he => ?_)
      have HRT := hid hr
      clear hn hr he
      go_wp2
      refine HRT.out _ _ (fun w' hk' hs' => ?_)
      refine ⟨by simp, rfl, rfl, hS6.kept hk', hTop6, Nat.le_trans hsz5 (Nat.le_trans hlor6.1 hk'.grow), fun i hi => (Sim.stay hk' hv8 hs' rfl).trans ((hlor6.2 i (by omega) (by omega)).trans (hold5 i hi))⟩
    case loop2 =>
      refine wpE_then hfn (by kernel_rfl) hJ5.1 rfl [] (fun v7 hv7 Ql hn hr he => ?_)
      have HN := hid hn
      clear hn hr he
      go_wp2
      refine HN.out _ _ (fun w6 hk6 hs6 => ?_)
      obtain ⟨hJ6, hlor6⟩ := hJ5.kept hk6 hv7 hs6 (Up.same rfl)
      clear HN Ql
      refine wpE_block ?_
      refine wpE_loop (n := sn) (I := fun n a w' Sh' => ∃ (i : Nat) (s : Nat → Value), a = PAct s ∧ n + i = sn ∧ s 1 = .slice sa sn sc ∧ s 2 = .int .i64 3 ∧ s 3 = .int .i64 5 ∧ s 13 = .pointer (some ⟨W2, 0, none⟩) ∧ s 14 = .int .i64 i ∧ Jr A (W2 + 1) W2 (.slice ga gn gc) (.slice ta tn tc) (T i) (T i + i) i w' Sh' ∧ Lor (W2 + 1) W2 w5 w') ?_ ⟨0, pget rfl ⟨rfl, rfl, rfl, rfl, rfl, rfl, hJ6.mono (by omega) (by omega) (by omega), hlor6⟩⟩
      clear hJ6 hlor6 hk6 hs6 hv7 v7 w6
      rintro n a w6 Sh6 ⟨i, s, rfl, hni, g1, g2, g3, g13, g14, hJ6, hlor6⟩
      simp only [PAct, g1, g2, g3, g13, g14]
      refine wpE_then hfn (by kernel_rfl) hJ6.1 rfl [2] (fun v7 hv7 Ql hn hr he => ?_)
      have HN := hid hn
      have HE := hid he
      clear hn hr he
      by_cases hlt : i < sn
      case neg =>
        have hltz : ¬ (i : Int) < (sn : Int) := by omega
        go_wp2
        refine HE.out 2 _ _ (by simp) (fun w' hk' hs' => ?_)
        obtain ⟨hJ', hlor'⟩ := hJ6.kept hk' hv7 hs' (Up.same rfl)
        exact pget rfl ⟨hJ'.1, hJ'.2.1, hlor6.trans hlor'⟩
      have hltz : (i : Int) < (sn : Int) := by omega
      go_wp2
      refine HN.out _ _ (fun w7 hk7 hs7 => ?_)
      obtain ⟨hJ7, hlor7⟩ := hJ6.kept hk7 hv7 hs7 (Up.same rfl)
      have hlor7 := hlor6.trans hlor7
      clear HN HE Ql hJ6 hlor6 hk7 hs7 hv7
      obtain ⟨g, o, k, a, b, c, s0, t0, hsa, hgA, hsc, k0, k1, k2, k3, k4, k5, har, hTs⟩ := HS5.out i hlt
      subst hsa
      have hTi := hTn (i + 1) (by omega)
      refine wpE_cut (fun a w' Sh' => ∃ s : Nat → Value, a = PAct s ∧ s 1 = .slice (some ⟨g, o, none⟩) sn sc ∧ s 2 = .int .i64 3 ∧ s 3 = .int .i64 5 ∧ s 13 = .pointer (some ⟨W2, 0, none⟩) ∧ s 14 = .int .i64 i ∧ Jr A (W2 + 1) W2 (.slice ga gn gc) (.slice ta tn tc) (T (i + 1)) (T (i + 1) + (i + 1)) (i + 1) w' Sh' ∧ Lor (W2 + 1) W2 w5 w') ?more (wpE_block ?body)
      case more =>
        rintro a w8 Sh8 ⟨s, rfl, g1, g2, g3, g13, g14, hJ8, hlor8⟩
        simp only [PAct, g1, g2, g3, g13, g14]
        refine wpE_fin hfn (by kernel_rfl) hJ8.1 rfl [] (fun v8 hv8 Ql hn hr he => ?_)
        have HN := hid hn
        clear hn hr he
        have hw : IntKind.i64.wrap ((i : Int) + 1) = ((i + 1 : Nat) : Int) := by rw [IntKind.wrap_i64]; omega
        go_wp2
        refine HN.out _ _ (fun w9 hk9 hs9 => ?_)
        obtain ⟨hJ9, hlor9⟩ := hJ8.kept hk9 hv8 hs9 (Up.same rfl)
        refine ⟨n - 1, by omega, i + 1, pget rfl ⟨by omega, rfl, rfl, rfl, rfl, ?_, hJ9, hlor8.trans hlor9⟩⟩
        first | rfl | (show Value.int .i64 _ = _; congr 1; omega)
      case body =>
        -- is it of these kinds?
        refine wpE_then hfn (by kernel_rfl) hJ7.1 rfl [3] (fun v8 hv8 Ql hn hr he => ?_)
        have hcell : ∀ (w' : World) (Sh' : Loc → Prop) (v' : World), Lor (W2 + 1) W2 w5 w' → (∀ l, Sh' l → ∃ a : Addr, l = .cell a ∧ A ≤ a.block) → Sim (BsOf Sh') w' v' → ∀ (j : Nat) (x : Value), w5.cell? ⟨g, j, none⟩ = some x → v'.cell? ⟨g, j, none⟩ = some x := fun w' Sh' v' hl ht hs j x hx => lone_cell hs ht hgA ((World.cell?_of_block (w := w5) (a := ⟨g, j, none⟩) (hl.2 g (by omega) (by omega))).trans hx)
        have c0 := hcell w7 Sh6 v8 hlor7 hJ7.2.1 hv8 _ _ k0
        have HN := hid hn
        have HE := hid he
        have HCELL := hid hcell
        clear hn hr he hcell
        by_cases hin : 3 ≤ k ∧ k ≤ 5
        case neg =>
          by_cases h3 : k < 3
          · go_wp2
            refine HE.out 3 _ _ (by simp) (fun w8 hk8 hs8 => ?_)
            obtain ⟨hJ8, hlor8⟩ := hJ7.kept hk8 hv8 hs8 (Up.same rfl)
            exact pget rfl ⟨rfl, rfl, rfl, rfl, rfl, hJ8.mono (by omega) (by omega) (by omega), hlor7.trans hlor8⟩
          · have h5 : k > 5 := by omega
            go_wp2
            refine HE.out 3 _ _ (by simp) (fun w8 hk8 hs8 => ?_)
            obtain ⟨hJ8, hlor8⟩ := hJ7.kept hk8 hv8 hs8 (Up.same rfl)
            exact pget rfl ⟨rfl, rfl, rfl, rfl, rfl, hJ8.mono (by omega) (by omega) (by omega), hlor7.trans hlor8⟩
        obtain ⟨hin3, hin5⟩ := hin
        have hn3 : ¬ k < 3 := by omega
        have hn5 : ¬ k > 5 := by omega
        go_wp2
        refine HN.out _ _ (fun w8 hk8 hs8 => ?_)
        obtain ⟨hJ8, hlor8⟩ := hJ7.kept hk8 hv8 hs8 (Up.same rfl)
        have hlor8 := hlor7.trans hlor8
        clear HN HE Ql hJ7 hlor7 hk8 hs8 hv8 c0
        refine wpE_cut (fun a w' Sh' => ∃ s : Nat → Value, a = PAct s ∧ s 1 = .slice (some ⟨g, o, none⟩) sn sc ∧ s 2 = .int .i64 3 ∧ s 3 = .int .i64 5 ∧ s 13 = .pointer (some ⟨W2, 0, none⟩) ∧ s 14 = .int .i64 i ∧ s 15 = .bool true ∧ Jr A (W2 + 1) W2 (.slice ga gn gc) (.slice ta tn tc) (T (i + 1)) (T (i + 1) + (i + 1)) (i + 1) w' Sh' ∧ Lor (W2 + 1) W2 w5 w') ?behind (wpE_region ?call)
        case behind =>
          rintro a w9 Sh9 ⟨s, rfl, g1, g2, g3, g13, g14, g15, hJ9, hlor9⟩
          simp only [PAct, g1, g2, g3, g13, g14, g15]
          refine wpE_fin hfn (by kernel_rfl) hJ9.1 rfl [] (fun v8 hv8 Ql hn hr he => ?_)
          have HN := hid hn
          clear hn hr he
          obtain ⟨hS9, hTop9, v90, S9, ra9, rc9, rds9, tot9, N9, M9, hs90, hR9, ht9, hN9, hM9, hn9⟩ := hJ9
          have hR8 := hR9.heap (Sim.heap hv8 hs90)
          have H27 := hid (hR8.whole (by omega) (by omega))
          have HR8 := hid hR8
          clear hR8 hR9 hs90
          go_wp2_with (go_at_call 27; refine H27.out.mono ?_; rintro e v9 ⟨rfl, hr9, hl9⟩)
          refine HN.out _ _ (fun w10 hk10 hs10 => ?_)
          refine pget rfl ⟨rfl, rfl, rfl, rfl, rfl, ⟨hS9.kept hk10, hTop9, v9, S9, ra9, rc9, rds9, tot9, N9, M9, hs10, hr9, ht9, hN9, hM9, hn9⟩, hlor9.trans (hl9.real hk10 hv8 hs10)⟩
        case call =>
          simp only [List.size_toArray, List.length_cons, List.length_nil, Nat.reduceAdd, Nat.zero_add, List.range, List.range.loop]
          refine opsE_one rfl (by rfl) (by kernel_rfl) hJ8.1 (fun v9 hv9 => ⟨.pointer (some ⟨W2, 0, none⟩), ?_, fun w9 hk9 hs9 => ?_⟩)
          · go_simp
          walk_nrm
          obtain ⟨hJ9, hlor9⟩ := hJ8.kept hk9 hv9 hs9 (Up.same rfl)
          refine opsE_one rfl (by rfl) (by kernel_rfl) hJ9.1 (fun v10 hv10 => ⟨.slice (some ⟨g, o, none⟩) sn sc, ?_, fun w10 hk10 hs10 => ?_⟩)
          · go_simp
          walk_nrm
          obtain ⟨hJ10, hlor10⟩ := hJ9.kept hk10 hv10 hs10 (Up.same rfl)
          refine opsE_one rfl (by rfl) (by kernel_rfl) hJ10.1 (fun v11 hv11 => ⟨.int .i64 i, ?_, fun w11 hk11 hs11 => ?_⟩)
          · go_simp
          walk_nrm
          obtain ⟨hJ11, hlor11⟩ := hJ10.kept hk11 hv11 hs11 (Up.same rfl)
          refine opsE_one rfl (by rfl) (by kernel_rfl) hJ11.1 (fun v12 hv12 => ⟨.pointer (some ⟨g, o + i * 6, none⟩), ?_, fun w12 hk12 hs12 => ?_⟩)
          · go_simp
          walk_nrm
          obtain ⟨hJ12, hlor12⟩ := hJ11.kept hk12 hv12 hs12 (Up.same rfl)
          have hlor12 := (((hlor8.trans hlor9).trans hlor10).trans hlor11).trans hlor12
          refine opsE_one rfl (by rfl) (by kernel_rfl) hJ12.1 (fun v13 hv13 => ⟨opv k a b c s0 t0, ?_, fun w13 hk13 hs13 => ?_⟩)
          · have d0 := HCELL.out w12 Sh6 v13 hlor12 hJ12.2.1 hv13 _ _ k0
            have d1 := HCELL.out w12 Sh6 v13 hlor12 hJ12.2.1 hv13 _ _ k1
            have d2 := HCELL.out w12 Sh6 v13 hlor12 hJ12.2.1 hv13 _ _ k2
            have d3 := HCELL.out w12 Sh6 v13 hlor12 hJ12.2.1 hv13 _ _ k3
            have d4 := HCELL.out w12 Sh6 v13 hlor12 hJ12.2.1 hv13 _ _ k4
            have d5 := HCELL.out w12 Sh6 v13 hlor12 hJ12.2.1 hv13 _ _ k5
            go_simp
          walk_nrm
          obtain ⟨hJ13, hlor13⟩ := hJ12.kept hk13 hv13 hs13 (Up.same rfl)
          have hlor13 := hlor12.trans hlor13
          clear hJ8 hJ9 hJ10 hJ11 hJ12 hlor8 hlor9 hlor10 hlor11 hlor12 hk9 hk10 hk11 hk12 hk13 hs9 hs10 hs11 hs12 hs13 hv9 hv10 hv11 hv12 hv13
          have hst := step_E (Post := Post) hJ13 hAL2 k a b c s0 t0 hin3 hin5 har (by omega) (by omega) (by omega) (by omega)
          refine opsE_call rfl (by rfl) rfl (by walk_nrm; exact hst) (fun x w14 Sh14 hx => ?_)
          obtain ⟨rfl, hJ14, hlor14⟩ := hx
          walk_nrm
          refine opsE_one rfl (by rfl) (by kernel_rfl) hJ14.1 (fun v14 hv14 => ⟨.bool true, ?_, fun w15 hk15 hs15 => ?_⟩)
          · go_simp
          walk_nrm
          obtain ⟨hJ15, hlor15⟩ := hJ14.kept hk15 hv14 hs15 (Up.same rfl)
          refine opsE_nil ?_
          exact pget rfl ⟨rfl, rfl, rfl, rfl, rfl, rfl, hJ15.mono (by omega) (by omega) (by omega), (hlor13.trans hlor14).trans hlor15⟩
  case loop =>
    refine wpE_then hfn (by kernel_rfl) hS3 rfl [] (fun v7 hv7 Ql hn hr he => ?_)
    have HN := hid hn
    clear hn hr he
    go_wp2
    refine HN.out _ _ (fun w4 hk4 hs4 => ?_)
    obtain ⟨hJ4, hlor4⟩ := hJ3.kept hk4 hv7 hs4 (Up.same rfl)
    clear HN Ql
    refine wpE_block ?_
    refine wpE_loop (n := 17) (I := fun n a w' Sh' => ∃ (i : Nat) (s : Nat → Value), a = PAct s ∧ n + i = 17 ∧ s 1 = .slice sa sn sc ∧ s 2 = .int .i64 3 ∧ s 3 = .int .i64 5 ∧ s 4 = .pointer (some ⟨GB, 0, none⟩) ∧ s 8 = .bool false ∧ s 9 = .pointer (some ⟨WB, 0, none⟩) ∧ s 10 = .slice (some ⟨sg, 0, none⟩) 17 17 ∧ s 11 = .int .i64 i ∧ Jr A L1 WB (.slice (some ⟨ka, 0, none⟩) 1 1) (.slice y1 y2 y3) (8 * i) (9 * i) i w' Sh' ∧ Lor L1 WB w3 w') ?_ ⟨0, pget rfl ⟨rfl, rfl, rfl, rfl, rfl, rfl, rfl, rfl, rfl, hJ4, hlor4⟩⟩
    clear hJ4 hlor4 hk4 hs4 hv7 v7 w4
    rintro n a w4 Sh4 ⟨i, s, rfl, hni, g1, g2, g3, g4, g8, g9, g10, g11, hJ4, hlor4⟩
    simp only [PAct, g1, g2, g3, g4, g8, g9, g10, g11]
    have hJs := hJ4
    -- is there one more?
    refine wpE_then hfn (by kernel_rfl) hJ4.1 rfl [0] (fun v7 hv7 Ql hn hr he => ?_)
    have HN := hid hn
    have HE := hid he
    clear hn hr he
    by_cases hlt : i < 17
    case neg =>
      have hltz : ¬ (i : Int) < 17 := by omega
      go_wp2
      refine HE.out 0 _ _ (by simp) (fun w' hk' hs' => ?_)
      obtain ⟨hJ', hlor'⟩ := hJ4.kept hk' hv7 hs' (Up.same rfl)
      exact pget rfl ⟨rfl, rfl, rfl, rfl, rfl, hJ'.1, hJ'.2.1, hlor4.trans hlor'⟩
    have hltz : (i : Int) < 17 := by omega
    go_wp2
    refine HN.out _ _ (fun w5 hk5 hs5 => ?_)
    obtain ⟨hJ5, hlor5⟩ := hJ4.kept hk5 hv7 hs5 (Up.same rfl)
    have hlor5 := hlor4.trans hlor5
    clear HN HE Ql hJ4 hlor4 hk5 hs5 hv7 hJs
    refine wpE_cut (fun a w' Sh' => ∃ s : Nat → Value, a = PAct s ∧ s 1 = .slice sa sn sc ∧ s 2 = .int .i64 3 ∧ s 3 = .int .i64 5 ∧ s 4 = .pointer (some ⟨GB, 0, none⟩) ∧ s 8 = .bool false ∧ s 9 = .pointer (some ⟨WB, 0, none⟩) ∧ s 10 = .slice (some ⟨sg, 0, none⟩) 17 17 ∧ s 11 = .int .i64 i ∧ Jr A L1 WB (.slice (some ⟨ka, 0, none⟩) 1 1) (.slice y1 y2 y3) (8 * (i + 1)) (9 * (i + 1)) (i + 1) w' Sh' ∧ Lor L1 WB w3 w') ?more (wpE_block ?body)
    case more =>
      rintro a w6 Sh6 ⟨s, rfl, g1, g2, g3, g4, g8, g9, g10, g11, hJ6, hlor6⟩
      simp only [PAct, g1, g2, g3, g4, g8, g9, g10, g11]
      refine wpE_fin hfn (by kernel_rfl) hJ6.1 rfl [] (fun v8 hv8 Ql hn hr he => ?_)
      have HN := hid hn
      clear hn hr he
      have hw : IntKind.i64.wrap ((i : Int) + 1) = ((i + 1 : Nat) : Int) := by rw [IntKind.wrap_i64]; omega
      go_wp2
      refine HN.out _ _ (fun w7 hk7 hs7 => ?_)
      obtain ⟨hJ7, hlor7⟩ := hJ6.kept hk7 hv8 hs7 (Up.same rfl)
      refine ⟨n - 1, by omega, i + 1, pget rfl ⟨by omega, rfl, rfl, rfl, rfl, rfl, rfl, rfl, ?_, hJ7, hlor6.trans hlor7⟩⟩
      first | rfl | (show Value.int .i64 _ = _; congr 1; omega)
    case body =>
      obtain ⟨k, hk0, hkk⟩ := HCS.out i hlt
      have hsg5 : w5.heap[sg]? = some (.cells cs 76) := (hlor5.2 sg hsgl hsgW).trans hsg3
      refine wpE_then hfn (by kernel_rfl) hJ5.1 rfl [] (fun v8 hv8 Ql hn hr he => ?_)
      have c0 := cellOf (W := v8) (hv8.lone hJ5.1 hsg5 (by decide)) hk0
      have HN := hid hn
      clear hn hr he
      by_cases hin : 3 ≤ k ∧ k ≤ 5
      case neg =>
        have hfl : (decide (3 ≤ k) && decide (k ≤ 5)) = false := by
          rw [Bool.and_eq_false_iff, decide_eq_false_iff_not, decide_eq_false_iff_not]
          omega
        by_cases h3 : 3 ≤ k
        · have h5 : ¬ k ≤ 5 := by omega
          go_wp2
          refine HN.out _ _ (fun w6 hk6 hs6 => ?_)
          obtain ⟨hJ6, hlor6⟩ := hJ5.kept hk6 hv8 hs6 (Up.same rfl)
          refine wpE_cond (t := false) (by first | rfl | go_simp) ?_
          simp only [Bool.false_eq_true, if_false]
          refine wpE_skip ?_
          exact pget rfl ⟨rfl, rfl, rfl, rfl, rfl, rfl, rfl, rfl, hJ6.mono (by omega) (by omega) (by omega), hlor5.trans hlor6⟩
        · go_wp2
          refine HN.out _ _ (fun w6 hk6 hs6 => ?_)
          obtain ⟨hJ6, hlor6⟩ := hJ5.kept hk6 hv8 hs6 (Up.same rfl)
          refine wpE_cond (t := false) (by first | rfl | go_simp) ?_
          simp only [Bool.false_eq_true, if_false]
          refine wpE_skip ?_
          exact pget rfl ⟨rfl, rfl, rfl, rfl, rfl, rfl, rfl, rfl, hJ6.mono (by omega) (by omega) (by omega), hlor5.trans hlor6⟩
      obtain ⟨hin3, hin5⟩ := hin
      obtain ⟨s0, q1, q2, q3, q4, q5, hs8⟩ := hkk hin3 hin5
      go_wp2
      refine HN.out _ _ (fun w6 hk6 hs6 => ?_)
      obtain ⟨hJ6, hlor6⟩ := hJ5.kept hk6 hv8 hs6 (Up.same rfl)
      have hlor6 := hlor5.trans hlor6
      clear HN Ql hJ5 hlor5 hk6 hs6 hv8 c0
      have hsg6 : w6.heap[sg]? = some (.cells cs 76) := (hlor6.2 sg hsgl hsgW).trans hsg3
      refine wpE_cond (t := true) (by first | rfl | go_simp) ?_
      simp only [if_true]
      refine wpE_cut (fun a w' Sh' => ∃ s : Nat → Value, a = PAct s ∧ s 1 = .slice sa sn sc ∧ s 2 = .int .i64 3 ∧ s 3 = .int .i64 5 ∧ s 4 = .pointer (some ⟨GB, 0, none⟩) ∧ s 8 = .bool false ∧ s 9 = .pointer (some ⟨WB, 0, none⟩) ∧ s 10 = .slice (some ⟨sg, 0, none⟩) 17 17 ∧ s 11 = .int .i64 i ∧ s 12 = .bool true ∧ Jr A L1 WB (.slice (some ⟨ka, 0, none⟩) 1 1) (.slice y1 y2 y3) (8 * (i + 1)) (9 * (i + 1)) (i + 1) w' Sh' ∧ Lor L1 WB w3 w') ?behind (wpE_region ?call)
      case behind =>
        rintro a w7 Sh7 ⟨s, rfl, g1, g2, g3, g4, g8, g9, g10, g11, g12, hJ7, hlor7⟩
        simp only [PAct, g1, g2, g3, g4, g8, g9, g10, g11, g12]
        refine wpE_fin hfn (by kernel_rfl) hJ7.1 rfl [] (fun v8 hv8 Ql hn hr he => ?_)
        have HN := hid hn
        clear hn hr he
        go_wp2
        refine HN.out _ _ (fun w8 hk8 hs8 => ?_)
        obtain ⟨hJ8, hlor8⟩ := hJ7.kept hk8 hv8 hs8 (Up.same rfl)
        exact pget rfl ⟨rfl, rfl, rfl, rfl, rfl, rfl, rfl, rfl, hJ8, hlor7.trans hlor8⟩
      case call =>
        simp only [List.size_toArray, List.length_cons, List.length_nil, Nat.reduceAdd, Nat.zero_add, List.range, List.range.loop]
        refine opsE_one rfl (by rfl) (by kernel_rfl) hJ6.1 (fun v9 hv9 => ⟨.pointer (some ⟨WB, 0, none⟩), ?_, fun w7 hk7 hs7 => ?_⟩)
        · go_simp
        walk_nrm
        obtain ⟨hJ7, hlor7⟩ := hJ6.kept hk7 hv9 hs7 (Up.same rfl)
        refine opsE_one rfl (by rfl) (by kernel_rfl) hJ7.1 (fun v10 hv10 => ⟨.slice (some ⟨sg, 0, none⟩) 17 17, ?_, fun w8 hk8 hs8' => ?_⟩)
        · go_simp
        walk_nrm
        obtain ⟨hJ8, hlor8⟩ := hJ7.kept hk8 hv10 hs8' (Up.same rfl)
        refine opsE_one rfl (by rfl) (by kernel_rfl) hJ8.1 (fun v11 hv11 => ⟨.int .i64 i, ?_, fun w9 hk9 hs9 => ?_⟩)
        · go_simp
        walk_nrm
        obtain ⟨hJ9, hlor9⟩ := hJ8.kept hk9 hv11 hs9 (Up.same rfl)
        refine opsE_one rfl (by rfl) (by kernel_rfl) hJ9.1 (fun v12 hv12 => ⟨.pointer (some ⟨sg, i * 6, none⟩), ?_, fun w10 hk10 hs10 => ?_⟩)
        · go_simp
        walk_nrm
        obtain ⟨hJ10, hlor10⟩ := hJ9.kept hk10 hv12 hs10 (Up.same rfl)
        have hlor10 := (((hlor6.trans hlor7).trans hlor8).trans hlor9).trans hlor10
        have hsg10 : w10.heap[sg]? = some (.cells cs 76) := (hlor10.2 sg hsgl hsgW).trans hsg3
        refine opsE_one rfl (by rfl) (by kernel_rfl) hJ10.1 (fun v13 hv13 => ⟨opv k 0 0 0 s0 ⟨#[]⟩, ?_, fun w11 hk11 hs11 => ?_⟩)
        · have hb13 := hv13.lone hJ10.1 hsg10 (by decide)
          have d0 := cellOf hb13 hk0
          have d1 := cellOf hb13 q1
          have d2 := cellOf hb13 q2
          have d3 := cellOf hb13 q3
          have d4 := cellOf hb13 q4
          have d5 := cellOf hb13 q5
          clear hb13
          go_simp
        walk_nrm
        obtain ⟨hJ11, hlor11⟩ := hJ10.kept hk11 hv13 hs11 (Up.same rfl)
        have hlor11 := hlor10.trans hlor11
        clear hJ6 hJ7 hJ8 hJ9 hJ10 hlor6 hlor7 hlor8 hlor9 hlor10 hk7 hk8 hk9 hk10 hk11 hs7 hs8' hs9 hs10 hs11 hv9 hv10 hv11 hv12 hv13
        have hst := step_E (Post := Post) hJ11 hAL1 k 0 0 0 s0 ⟨#[]⟩ hin3 hin5 (by omega) (by omega) (by omega) (by omega) (by omega)
        refine opsE_call rfl (by rfl) rfl (by walk_nrm; exact hst) (fun x w12 Sh12 hx => ?_)
        obtain ⟨rfl, hJ12, hlor12⟩ := hx
        walk_nrm
        refine opsE_one rfl (by rfl) (by kernel_rfl) hJ12.1 (fun v14 hv14 => ⟨.bool true, ?_, fun w13 hk13 hs13 => ?_⟩)
        · go_simp
        walk_nrm
        obtain ⟨hJ13, hlor13⟩ := hJ12.kept hk13 hv14 hs13 (Up.same rfl)
        refine opsE_nil ?_
        exact pget rfl ⟨rfl, rfl, rfl, rfl, rfl, rfl, rfl, rfl, rfl, hJ13.mono (by omega) (by omega) (by omega), (hlor11.trans hlor12).trans hlor13⟩

end Go.Proofs.YtlghcldiboecoaaGreatDoor
