/- A step of the script. -/
import Derived.Test.YtlghcldiboecoaaGreatDoorPReads
import Derived.Test.YtlghcldiboecoaaGreatDoorQ40
import Derived.Deep.RegionHeld3
set_option linter.unusedVariables false
namespace Go.Proofs.YtlghcldiboecoaaGreatDoor
open Go.RowKit Go.Pair

theorem Lor.trans {L WB : Nat} {w w' w'' : World} (h : Lor L WB w w') (h' : Lor L WB w' w'') : Lor L WB w w'' := ⟨Nat.le_trans h.1 h'.1, fun i hi hn => (h'.2 i hi hn).trans (h.2 i hi hn)⟩

set_option maxRecDepth 100000 in
set_option maxHeartbeats 8000000 in
theorem step_E {Post : Value → World → Prop} {Shun : Loc → Prop} {w : World} {A L WB : Nat} {x0 x1 : Value} {tot N M : Nat} (hJ : Jr A L WB x0 x1 tot N M w Shun) (hAL : A ≤ L) (k a b c : Int) (s t : ByteArray) (hk3 : 3 ≤ k) (hk5 : k ≤ 5) (ha : -9223372036854775808 ≤ a ∧ a ≤ 9223372036854775807) (hs : s.size ≤ 1048576) (htot : tot + s.size ≤ 1400000) (hN : N + s.size ≤ 900000000) (hM : M ≤ 900000000) :
    CallsE Tryz.prog Post 26 #[.pointer (some ⟨WB, 0, none⟩), opv k a b c s t] Shun w (fun x w' Sh' => x = .bool true ∧ Jr A L WB x0 x1 (tot + s.size) (N + s.size + 1) (M + 1) w' Sh' ∧ Lor L WB w w') := by
  obtain ⟨hS, hTop, v00, S, ra, rc, rds, tot0, N0, M0, hs00, hR00, ht0, hN0, hM0, hn0⟩ := hJ
  refine callsE_of_wpE (t := 4) Tryz.func26 (by rfl) rfl rfl ?_
  simp only [Tryz.ntmps26, List.size_toArray, List.length_cons, List.length_nil, Nat.reduceAdd, Nat.reduceSub, Array.replicate_succ, Array.replicate_zero, List.push_toArray, List.append_toArray, List.nil_append, List.cons_append]
  have hfn : ∃ f, Tryz.prog.funcs[26]? = some f := ⟨_, Tryz.func26⟩
  have h1n : ¬ k < 1 := by omega
  have h21 : ¬ 21 < k := by omega
  refine wpE_then hfn (by kernel_rfl) hS rfl [] (fun v hv Ql hn hr he => ?_)
  have HR := hid (hR00.heap (Sim.heap hv hs00))
  have HN := hid hn
  clear hn hr he
  clear hR00 hs00 v00
  have HU := hid (Up.of (below1 v (.cells #[.int .i64 k, .int .i64 a, .int .i64 b, .int .i64 c, .string s, .string t] 76)))
  have HOB := hid (heap_alloc_new v (.cells #[.int .i64 k, .int .i64 a, .int .i64 b, .int .i64 c, .string s, .string t] 76))
  go_wp2
  refine HN.out _ _ (fun w1 hk1 hs1 => ?_)
  clear HN Ql
  generalize v.alloc (.cells #[.int .i64 k, .int .i64 a, .int .i64 b, .int .i64 c, .string s, .string t] 76) = v1 at *
  have hS1 := hS.kept hk1
  have hL := HR.out.le
  refine wpE_seq (wpE_block ?_)
  -- in bounds
  refine wpE_then hfn (by kernel_rfl) hS1 rfl [] (fun v2 hv2 Ql hn hr he => ?_)
  have e2 : v2.heap = v1.heap := Sim.heap hv2 hs1
  have c0 := cellOf (W := v2) (j := 0) (by rw [e2]; exact HOB.out) rfl
  have HN := hid hn
  clear hn hr he
  go_wp2
  refine HN.out _ _ (fun w2 hk2 hs2 => ?_)
  clear HN Ql c0
  have hS2 := hS1.kept hk2
  refine wpE_cond (t := false) (by first | rfl | go_simp) ?_
  simp only [Bool.false_eq_true, if_false]
  refine wpE_then hfn (by kernel_rfl) hS2 rfl [] (fun v3 hv3 Ql hn hr he => ?_)
  have e3 : v3.heap = v1.heap := (Sim.heap hv3 hs2).trans e2
  have c0 := cellOf (W := v3) (j := 0) (by rw [e3]; exact HOB.out) rfl
  have HN := hid hn
  clear hn hr he
  by_cases hk : k = 3
  · subst hk
    go_wp2
    refine HN.out _ _ (fun w3 hk3 hs3 => ?_)
    clear HN Ql c0
    have hS3 := hS2.kept hk3
    refine wpE_cond (t := true) (by first | rfl | go_simp) ?_
    simp only [if_true]
    refine wpE_fin hfn (by kernel_rfl) hS3 rfl [] (fun v4 hv4 Ql hn hr he => ?_)
    have e4 : v4.heap = v1.heap := (Sim.heap hv4 hs3).trans e3
    have HRT := hid hr
    have HO4 : Hid (v4.heap[v.heap.size]? = some (.cells #[.int .i64 3, .int .i64 a, .int .i64 b, .int .i64 c, .string s, .string t] 76)) := by rw [e4]; exact HOB.out
    have HU4 := hid (HU.out.heap e4)
    have H52 := hid (rw_frame (HU4.out.rw HR.out) (by omega) a b c s t (by omega))
    clear hn hr he
    have d0 := cellOf (j := 0) HO4.out rfl
    have d1 := cellOf (j := 1) HO4.out rfl
    have d2 := cellOf (j := 2) HO4.out rfl
    have d3 := cellOf (j := 3) HO4.out rfl
    have d4 := cellOf (j := 4) HO4.out rfl
    have d5 := cellOf (j := 5) HO4.out rfl
    go_wp2_with (go_at_call 52; refine H52.out.mono ?_; rintro e v5 ⟨rfl, hrw, hlos⟩)
    refine HRT.out _ _ (fun w' hk' hs' => ?_)
    obtain ⟨S', hrw⟩ := hrw
    have hlos2 : Los L WB v v5 := Los.trans ⟨HU4.out.size, fun i hi _ => HU4.out.block i (by omega)⟩ hlos
    refine ⟨by simp, rfl, rfl, ⟨hS3.kept hk', hTop, _, S', ra, rc, rds, tot0, N0 + 1, M0, hs', hrw, by omega, by omega, by omega, by omega⟩, hlos2.real (((hk1.trans hk2).trans hk3).trans hk') hv hs'⟩
  · have hk4 : ¬ k ≤ 3 := by omega
    have hk6 : ¬ k = 6 := by omega
    go_wp2
    refine HN.out _ _ (fun w3 hk3 hs3 => ?_)
    clear HN Ql c0
    have hS3 := hS2.kept hk3
    refine wpE_cond (t := false) (by first | rfl | go_simp) ?_
    simp only [Bool.false_eq_true, if_false]
    refine wpE_then hfn (by kernel_rfl) hS3 rfl [] (fun v4 hv4 Ql hn hr he => ?_)
    have e4 : v4.heap = v1.heap := (Sim.heap hv4 hs3).trans e3
    have c0 := cellOf (W := v4) (j := 0) (by rw [e4]; exact HOB.out) rfl
    have HN := hid hn
    clear hn hr he
    go_wp2
    refine HN.out _ _ (fun w4 hk4' hs4 => ?_)
    clear HN Ql c0
    have hS4 := hS3.kept hk4'
    refine wpE_cond (t := true) (by first | rfl | go_simp) ?_
    simp only [if_true]
    refine wpE_seq (wpE_region ?_)
    simp only [List.size_toArray, List.length_cons, List.length_nil, Nat.reduceAdd, Nat.zero_add, List.range, List.range.loop]
    refine opsE_one rfl (by rfl) (by kernel_rfl) hS4 (fun v5 hv5 => ⟨.pointer (some ⟨WB, 0, none⟩), ?_, fun w5 hk5' hs5 => ?_⟩)
    · go_simp
    have e5 : v5.heap = v1.heap := (Sim.heap hv5 hs4).trans e4
    walk_nrm
    have hS5 := hS4.kept hk5'
    refine opsE_one rfl (by rfl) (by kernel_rfl) hS5 (fun v6 hv6 => ⟨opv k a b c s t, ?_, fun w6 hk6' hs6 => ?_⟩)
    · have HO6 : Hid (v6.heap[v.heap.size]? = some (.cells #[.int .i64 k, .int .i64 a, .int .i64 b, .int .i64 c, .string s, .string t] 76)) := by rw [(Sim.heap hv6 hs5).trans e5]; exact HOB.out
      have d0 := cellOf (j := 0) HO6.out rfl
      have d1 := cellOf (j := 1) HO6.out rfl
      have d2 := cellOf (j := 2) HO6.out rfl
      have d3 := cellOf (j := 3) HO6.out rfl
      have d4 := cellOf (j := 4) HO6.out rfl
      have d5 := cellOf (j := 5) HO6.out rfl
      go_simp
    have e6 : v6.heap = v1.heap := (Sim.heap hv6 hs5).trans e5
    walk_nrm
    have hS6 := hS5.kept hk6'
    have HU6 := HU.out.heap e6
    have hK6 := ((((hk1.trans hk2).trans hk3).trans hk4').trans hk5').trans hk6'
    have hJ6 : Jr A L WB x0 x1 tot N M w6 Shun := ⟨hS6, hTop, v6, S, ra, rc, rds, tot0, N0, M0, hs6, HU6.rw HR.out, ht0, hN0, hM0, hn0⟩
    have hlor : Lor L WB w w6 := Los.real (v := v) (v' := v6) ⟨HU6.size, fun i hi _ => HU6.block i (by omega)⟩ hK6 hv hs6
    have hrd := reads_E (Post := Post) hJ6 hAL k a b c s t (by omega) ha hs htot hN hM
    refine opsE_call rfl (by rfl) rfl (by walk_nrm; exact hrd) (fun x w7 Sh' hx => ?_)
    obtain ⟨rfl, hJ7, hlor7⟩ := hx
    walk_nrm
    obtain ⟨hS7, hTop7, v70, S7, ra7, rc7, rds7, tot7, N7, M7, hs70, hR7, ht7, hN7, hM7, hn7⟩ := hJ7
    refine opsE_one rfl (by rfl) (by kernel_rfl) hS7 (fun v7 hv7 => ⟨.bool true, ?_, fun w8 hk8 hs8 => ?_⟩)
    · go_simp
    walk_nrm
    refine opsE_nil ?_
    show wpE _ _ _ _ _ _ _ _
    refine wpE_ret ?_
    refine ⟨.inr rfl, rfl, rfl, ⟨hS7.kept hk8, hTop7, v7, S7, ra7, rc7, rds7, tot7, N7, M7, hs8, hR7.heap (Sim.heap hv7 hs70), ht7, by omega, hM7, hn7⟩, (hlor.trans hlor7).trans ⟨hk8.grow, fun i hi hn => Sim.stay hk8 hv7 hs8 rfl⟩⟩

end Go.Proofs.YtlghcldiboecoaaGreatDoor

/- The document's Save at one tree: the root. -/
namespace Go.Proofs.YtlghcldiboecoaaGreatDoor
open Go.RowKit

set_option maxRecDepth 8000 in
set_option maxHeartbeats 2000000 in
theorem path_root (w : World) : Calls Tryz.prog 124 #[.string ⟨#[47]⟩] w fun e w' => e = .returned (.bool true) ∧ w' = w := by
  go_enter Tryz.func124, Tryz.ntmps124
  go_wp2
  all_goals go_ret
  all_goals exact ⟨rfl, rfl⟩

set_option maxRecDepth 8000 in
set_option maxHeartbeats 4000000 in
theorem sum_any (w : World) (g n cap : Nat) (xs : List UInt8) (base : Nat) (hn : n ≤ 100000) (hown : w.ownsRow base 5 1 (.slice (some ⟨g, 0, none⟩) n cap) n (bcells xs)) :
    Calls Tryz.prog 80 #[.slice (some ⟨g, 0, none⟩) n cap] w fun e w' => (∃ z : Nat, z ≤ 8589934592 ∧ e = .returned (.int .i64 z)) ∧ w' = w := by
  have hxl : xs.length = n := by have := hown.1; rw [bcells_len] at this; omega
  have hcap : n ≤ cap := by
    rcases hown.2 with ⟨h, _⟩ | ⟨g', cap', cur, h, _, _, h3, _⟩
    · cases h
    · cases h; exact h3
  have HCL : Hid (∀ i, i < n → ∃ x : UInt8, w.cell? ⟨g, i, none⟩ = some (.int .u8 x.toNat)) := fun i hi => by
    have h := hown.cells (g := g) rfl i (.int .u8 (xs[i]'(by omega)).toNat) (by simp [bcells, hxl, hi])
    rw [Addr.add_lit, Nat.zero_add] at h
    exact ⟨_, h⟩
  clear hown hxl
  go_enter Tryz.func80, Tryz.ntmps80
  go_wp2
  go_loop [3, 4, 5] (fun u v k => ∃ A C i : Nat, u = .int .i64 A ∧ v = .int .i64 C ∧ k = .int .i64 i ∧ A ≤ 65521 ∧ C ≤ 65521 ∧ i ≤ n) (fun _ _ k => n - (intOf k).toNat)
  case atStart => exact ⟨1, n % 65521, 0, rfl, by first | rfl | simp [Int.tmod], rfl, by omega, by omega, by omega⟩
  case round =>
    obtain ⟨A, C, i, rfl, rfl, rfl, hA, hC, hi⟩ := hrel
    by_cases hlt : i < n
    · have hltz : (i : Int) < (n : Int) := by omega
      obtain ⟨x, hx⟩ := HCL.out i hlt
      have hx8 : x.toNat < 256 := x.toNat_lt
      obtain ⟨y, hy⟩ : ∃ y : Nat, y = x.toNat := ⟨_, rfl⟩
      rw [← hy] at hx hx8
      clear hy
      obtain ⟨d, hd, hd'⟩ : ∃ d : Nat, ((n : Int) - (i : Int)).tmod 65521 = (d : Int) ∧ d ≤ 65520 := by
        refine ⟨(n - i) % 65521, ?_, by omega⟩
        rw [show ((n : Int) - (i : Int)) = ((n - i : Nat) : Int) by omega]
        rfl
      have hp : y * d ≤ 255 * 65520 := Nat.mul_le_mul (by omega) hd'
      obtain ⟨p, hpe⟩ : ∃ p : Nat, p = y * d := ⟨_, rfl⟩
      have hpz : (y : Int) * (d : Int) = (p : Int) := by rw [hpe]; rfl
      rw [← hpe] at hp
      clear hpe
      go_wp2
      all_goals go_round
      case rel => exact ⟨(A + y) % 65521, (C + p) % 65521, i + 1, by go_num, by go_num, by go_num, by omega, by omega, by omega⟩
      case measure => simp [intOf]; omega
    · have hltz : ¬ (i : Int) < (n : Int) := by omega
      go_wp2
      all_goals go_ret
      exact ⟨⟨65536 * C + A, by omega, by go_num⟩, rfl⟩

set_option maxRecDepth 8000 in
set_option maxHeartbeats 4000000 in
theorem tree_root (w : World) (g : Nat) (hg : w.heap[g]? = some (.cells #[.string ⟨#[47]⟩, .string ⟨#[]⟩, .string ⟨#[]⟩, .int .i64 0, .int .i64 0, .int .i64 0] 115)) :
    Calls Tryz.prog 77 #[.int .i64 0, .slice (some ⟨g, 0, none⟩) 1 1] w fun e w' => e = .returned (.bool true) ∧ Below w.heap.size w w' := by
  have c0 := cellOf (j := 0) hg rfl
  have c1 := cellOf (j := 1) hg rfl
  have c2 := cellOf (j := 2) hg rfl
  have c3 := cellOf (j := 3) hg rfl
  have c4 := cellOf (j := 4) hg rfl
  have c5 := cellOf (j := 5) hg rfl
  have hb := below1 w (.cells #[.string ⟨#[47]⟩, .string ⟨#[]⟩, .string ⟨#[]⟩, .int .i64 0, .int .i64 0, .int .i64 0] 115)
  have hn := heap_alloc_new w (.cells #[.string ⟨#[47]⟩, .string ⟨#[]⟩, .string ⟨#[]⟩, .int .i64 0, .int .i64 0, .int .i64 0] 115)
  have d0 := cellOf (j := 0) hn rfl
  have d1 := cellOf (j := 1) hn rfl
  have d2 := cellOf (j := 2) hn rfl
  have d3 := cellOf (j := 3) hn rfl
  have d4 := cellOf (j := 4) hn rfl
  have d5 := cellOf (j := 5) hn rfl
  have HU := hid (fun W => utf8_any ⟨#[]⟩ W (by decide))
  have HB := hid hb
  clear hg hb hn
  go_enter Tryz.func77, Tryz.ntmps77
  go_wp2
  refine wp_loop_rounds 2 ?_
  rw [rounds_succ]
  go_wp2_with (first
    | (go_at_call 124; refine (path_root _).mono ?_; rintro e w1 ⟨rfl, hw1⟩; have hw2 := hw1.symm; clear hw1; subst hw2)
    | (go_at_call 125; refine (HU.out _).mono ?_; rintro e w1 ⟨rfl, hw1⟩; have hw2 := hw1.symm; clear hw1; subst hw2))
  rw [rounds_succ]
  go_wp2
  all_goals go_ret
  all_goals exact ⟨rfl, HB.out⟩

def rootV : Orch.V := .mk 0 ⟨#[]⟩ [.mk 0 ⟨#[47]⟩ [], .mk 0 ⟨#[]⟩ [], .mk 0 ⟨#[]⟩ [], .mk 0 ⟨#[]⟩ [], .mk 0 ⟨#[]⟩ []]

def rootS : ByteArray := ⟨#[40, 116, 98, 56, 56, 52, 41]⟩

theorem root_laid : ∃ t b, Orch.ptype 9 rootS.data.toList = some (t, []) ∧ Orch.laidT validB 9 t rootV = some b ∧ (1 ≤ b.length ∧ b.length ≤ 100) := by
  refine ⟨_, _, rfl, rfl, ?_⟩
  decide

theorem inV_root : InV rootV := by
  refine .mk _ _ _ ⟨by omega, by omega⟩ (by decide) (by decide) (fun e he => ?_)
  simp only [List.mem_cons, List.mem_nil_iff, or_false] at he
  rcases he with rfl | rfl | rfl | rfl | rfl <;> exact .mk _ _ _ ⟨by omega, by omega⟩ (by decide) (by decide) (fun e he => by cases he)

theorem root_ws {W : World} {g : Nat} (hg : W.heap[g]? = some (.cells #[.int .i64 0, .string ⟨#[47]⟩, .slice none 0 0, .int .i64 0, .string ⟨#[]⟩, .slice none 0 0, .int .i64 0, .string ⟨#[]⟩, .slice none 0 0, .int .i64 0, .string ⟨#[]⟩, .slice none 0 0, .int .i64 0, .string ⟨#[]⟩, .slice none 0 0] 113)) : WsAt W (fun b => b < W.heap.size) rootV.l (.slice (some ⟨g, 0, none⟩) 5 5) := by
  refine WsAt.row [(.mk 0 ⟨#[47]⟩ [], .slice none 0 0), (.mk 0 ⟨#[]⟩ [], .slice none 0 0), (.mk 0 ⟨#[]⟩ [], .slice none 0 0), (.mk 0 ⟨#[]⟩ [], .slice none 0 0), (.mk 0 ⟨#[]⟩ [], .slice none 0 0)] g 0 5 (by simp) (by simp) (ltOf hg) (fun j u hj => ?_) (fun p hp => ?_)
  · rw [Nat.zero_add]
    refine cellOf hg ?_
    rw [← Array.getElem?_toList]
    exact hj
  · simp only [List.mem_cons, List.mem_nil_iff, or_false] at hp
    rcases hp with rfl | rfl | rfl | rfl | rfl <;> exact .nil

set_option maxRecDepth 8000 in
set_option maxHeartbeats 4000000 in
theorem nodeBytes_root (w : World) :
    Calls Tryz.prog 79 #[.int .i64 1, .agg #[.string ⟨#[47]⟩, .string ⟨#[]⟩, .string ⟨#[]⟩, .int .i64 0, .int .i64 0, .int .i64 0]] w fun e w' => (∃ ov, e = .returned ov ∧ ∃ bs : List UInt8, (1 ≤ bs.length ∧ bs.length ≤ 100) ∧ w'.ownsRow w.heap.size 5 1 ov bs.length (bcells bs)) ∧ Below w.heap.size w w' := by
  have hn := heap_alloc_new w (.cells #[.string ⟨#[47]⟩, .string ⟨#[]⟩, .string ⟨#[]⟩, .int .i64 0, .int .i64 0, .int .i64 0] 115)
  have d0 := cellOf (j := 0) hn rfl
  have d1 := cellOf (j := 1) hn rfl
  have d2 := cellOf (j := 2) hn rfl
  have d3 := cellOf (j := 3) hn rfl
  have d4 := cellOf (j := 4) hn rfl
  have d5 := cellOf (j := 5) hn rfl
  clear hn
  obtain ⟨ty, bs, hp, hl, hbl⟩ := root_laid
  have HL : Hid (∀ W g, W.heap[g]? = some (.cells #[.int .i64 0, .string ⟨#[47]⟩, .slice none 0 0, .int .i64 0, .string ⟨#[]⟩, .slice none 0 0, .int .i64 0, .string ⟨#[]⟩, .slice none 0 0, .int .i64 0, .string ⟨#[]⟩, .slice none 0 0, .int .i64 0, .string ⟨#[]⟩, .slice none 0 0] 113) → Calls Tryz.prog 128 #[.string ⟨#[40, 116, 98, 56, 56, 52, 41]⟩, .agg #[.int .i64 0, .string ⟨#[]⟩, .slice (some ⟨g, 0, none⟩) 5 5]] W fun e w' => (∃ ov ok, e = .returned (.tuple #[ov, .bool ok]) ∧ w'.ownsRow W.heap.size 5 1 ov bs.length (bcells bs)) ∧ Below W.heap.size W w') := by
    intro W g hg
    refine (ld_all 9 (Nat.le_refl _) W rootS ty (by decide) hp rootV inV_root _ (root_ws hg)).mono ?_
    rintro e w' ⟨h, hb⟩
    rw [hl] at h
    obtain ⟨ov, ok, rfl, _, _, ho⟩ := h
    exact ⟨⟨ov, ok, rfl, ho⟩, hb⟩
  have HR := hid ((below1 ((w.alloc (.cells #[.string ⟨#[47]⟩, .string ⟨#[]⟩, .string ⟨#[]⟩, .int .i64 0, .int .i64 0, .int .i64 0] 115)).alloc (.cells #[.int .i64 0, .string ⟨#[47]⟩, .slice none 0 0, .int .i64 0, .string ⟨#[]⟩, .slice none 0 0, .int .i64 0, .string ⟨#[]⟩, .slice none 0 0, .int .i64 0, .string ⟨#[]⟩, .slice none 0 0, .int .i64 0, .string ⟨#[]⟩, .slice none 0 0] 113)) (.cells #[.int .i64 0, .string ⟨#[]⟩, .slice (some ⟨w.heap.size + 1, 0, none⟩) 5 5] 113)).block (w.heap.size + 1) (by simp))
  have HR2 := hid (heap_alloc_new (w.alloc (.cells #[.string ⟨#[47]⟩, .string ⟨#[]⟩, .string ⟨#[]⟩, .int .i64 0, .int .i64 0, .int .i64 0] 115)) (.cells #[.int .i64 0, .string ⟨#[47]⟩, .slice none 0 0, .int .i64 0, .string ⟨#[]⟩, .slice none 0 0, .int .i64 0, .string ⟨#[]⟩, .slice none 0 0, .int .i64 0, .string ⟨#[]⟩, .slice none 0 0, .int .i64 0, .string ⟨#[]⟩, .slice none 0 0] 113))
  have HS1 : Hid ((w.alloc (.cells #[.string ⟨#[47]⟩, .string ⟨#[]⟩, .string ⟨#[]⟩, .int .i64 0, .int .i64 0, .int .i64 0] 115)).heap.size = w.heap.size + 1) := by show _ = _; simp
  have HBLW := hid ((below2 w (.cells #[.string ⟨#[47]⟩, .string ⟨#[]⟩, .string ⟨#[]⟩, .int .i64 0, .int .i64 0, .int .i64 0] 115) (.cells #[.int .i64 0, .string ⟨#[47]⟩, .slice none 0 0, .int .i64 0, .string ⟨#[]⟩, .slice none 0 0, .int .i64 0, .string ⟨#[]⟩, .slice none 0 0, .int .i64 0, .string ⟨#[]⟩, .slice none 0 0, .int .i64 0, .string ⟨#[]⟩, .slice none 0 0] 113)).trans ((below1 ((w.alloc (.cells #[.string ⟨#[47]⟩, .string ⟨#[]⟩, .string ⟨#[]⟩, .int .i64 0, .int .i64 0, .int .i64 0] 115)).alloc (.cells #[.int .i64 0, .string ⟨#[47]⟩, .slice none 0 0, .int .i64 0, .string ⟨#[]⟩, .slice none 0 0, .int .i64 0, .string ⟨#[]⟩, .slice none 0 0, .int .i64 0, .string ⟨#[]⟩, .slice none 0 0, .int .i64 0, .string ⟨#[]⟩, .slice none 0 0] 113)) (.cells #[.int .i64 0, .string ⟨#[]⟩, .slice (some ⟨w.heap.size + 1, 0, none⟩) 5 5] 113)).mono (by simp; omega)))
  have HROW : Hid ((((w.alloc (.cells #[.string ⟨#[47]⟩, .string ⟨#[]⟩, .string ⟨#[]⟩, .int .i64 0, .int .i64 0, .int .i64 0] 115)).alloc (.cells #[.int .i64 0, .string ⟨#[47]⟩, .slice none 0 0, .int .i64 0, .string ⟨#[]⟩, .slice none 0 0, .int .i64 0, .string ⟨#[]⟩, .slice none 0 0, .int .i64 0, .string ⟨#[]⟩, .slice none 0 0, .int .i64 0, .string ⟨#[]⟩, .slice none 0 0] 113)).alloc (.cells #[.int .i64 0, .string ⟨#[]⟩, .slice (some ⟨w.heap.size + 1, 0, none⟩) 5 5] 113)).heap[w.heap.size + 1]? = some (.cells #[.int .i64 0, .string ⟨#[47]⟩, .slice none 0 0, .int .i64 0, .string ⟨#[]⟩, .slice none 0 0, .int .i64 0, .string ⟨#[]⟩, .slice none 0 0, .int .i64 0, .string ⟨#[]⟩, .slice none 0 0, .int .i64 0, .string ⟨#[]⟩, .slice none 0 0] 113)) := by
    have h2 := HR2.out
    rw [HS1.out] at h2
    exact HR.out.trans h2
  clear HR HR2 HS1
  have HBLN := hid hbl
  clear hbl hp hl
  go_enter Tryz.func79, Tryz.ntmps79
  go_wp2_with (go_at_call 128; refine (HL.out _ _ HROW.out).mono ?_; rintro e w1 ⟨⟨ov, ok, rfl, ho⟩, hb⟩; obtain ⟨oa, oc, rfl⟩ := own_shape ho; have HO := hid ho; have HB1 := hid hb; clear ho hb)
  all_goals go_ret
  all_goals exact ⟨⟨_, rfl, bs, HBLN.out, own_mono HO.out HBLW.out.size⟩, HBLW.out.trans (HB1.out.mono HBLW.out.size)⟩

theorem wpList_app {ops : Array Oper} {rest : List Oper} {o : Oper} {a : Act} {Q : Exit → Act → World → Prop} (W : World) (hgd : o.guard = none) (s x : Operand) (ho : o.op = .call { callee := .builtin .append, args := #[s, x], argTypes := #[57, 57] })
    (B B' : Nat) (hB : B ≤ W.heap.size) (v u : Value) (xs ys : List UInt8) (hs : a.eval s = v) (hx : a.eval x = u) (hown : W.ownsRow B 5 1 v xs.length (bcells xs)) (huo : W.ownsRow B' 5 1 u ys.length (bcells ys)) (h0 : 1 ≤ ys.length) (hsm : xs.length + ys.length ≤ 100000)
    (h : ∀ oa on oc zs w', on = zs.length → zs.length = xs.length + ys.length → w'.ownsRow B 5 1 (.slice oa on oc) zs.length (bcells zs) → Below B W w' → W.grownBy w' v.ownBlock → wpList Tryz.prog ops Q rest (a.put o.dst (.slice oa on oc)) w') : wpList Tryz.prog ops Q (o :: rest) a W := by
  obtain ⟨cg, cc, hu, hcells⟩ := own_bytes' huo h0
  obtain ⟨i0, hi0, hz0, hz1, hz2⟩ := info_parts Tryz.info5
  refine wpList_append_own_at W hgd s x 57 ho B 5 i0 (.int .u8 0) 1 1 Tryz.underlying57 hi0 hz0 hz1 hz2 rfl (by decide) v xs.length (bcells xs) hs hown ⟨cg, 0, none⟩ ys.length cc (bcells ys) (hx.trans hu) (by rw [bcells_len, Nat.mul_one]) hcells (bcells_one ys) (by unfold maxLen; omega) (by omega) hB ?_
  intro v' w' ho' hg _ _
  obtain ⟨oa, oc, rfl⟩ := own_shape ho'
  refine h oa _ oc (xs ++ ys) w' List.length_append.symm List.length_append ?_ ⟨hg.os, hg.tape, hg.output, hg.size, fun k hk => hg.block k (by omega) (fun e => by have := (ownBlock_lt hown e.symm).1; omega)⟩ hg
  rw [bcells_app, List.length_append]
  exact ho'

set_option maxRecDepth 8000 in
set_option maxHeartbeats 4000000 in
theorem save_root (w : World) (g : Nat) (hg : w.heap[g]? = some (.cells #[.string ⟨#[47]⟩, .string ⟨#[]⟩, .string ⟨#[]⟩, .int .i64 0, .int .i64 0, .int .i64 0] 115)) :
    Calls Tryz.prog 51 #[.int .i64 1, .int .i64 0, .slice (some ⟨g, 0, none⟩) 1 1] w fun e w' => (∃ ov code, e = .returned (.tuple #[ov, code]) ∧ ∃ bs : List UInt8, bs.length ≤ 1000 ∧ w'.ownsRow w.heap.size 5 1 ov bs.length (bcells bs)) ∧ Below w.heap.size w w' := by
  have HG := hid hg
  have HTR : Hid (Calls Tryz.prog 77 #[.int .i64 0, .slice (some ⟨g, 0, none⟩) 1 1] w fun e w' => e = .returned (.bool true) ∧ Below w.heap.size w w') := tree_root w g hg
  clear hg
  have HGW : Hid (∀ W, Below w.heap.size w W → W.heap[g]? = some (.cells #[.string ⟨#[47]⟩, .string ⟨#[]⟩, .string ⟨#[]⟩, .int .i64 0, .int .i64 0, .int .i64 0] 115)) := fun W hb => (hb.block _ (ltOf HG.out)).trans HG.out
  have HY : Hid (∀ (W : World) (z : Int) (k : Int), 1 ≤ k → k ≤ 8 → 0 ≤ z → z ≤ 8589934592 → Calls Tryz.prog 78 #[.int .i64 z, .int .i64 k] W fun e w' => (∃ oa on oc, e = .returned (.slice oa on oc) ∧ ∃ ys : List UInt8, ys.length = on ∧ (1 ≤ ys.length ∧ ys.length ≤ 8) ∧ w'.ownsRow W.heap.size 5 1 (.slice oa on oc) ys.length (bcells ys)) ∧ Below W.heap.size W w') := by
    intro W z k h1 h2 h3 h4
    obtain ⟨m, rfl⟩ := Int.eq_ofNat_of_zero_le (show 0 ≤ k by omega)
    refine (bytesOf_any W z (by omega) (by omega) m (by omega) (by omega)).mono ?_
    rintro e w' ⟨⟨ov, rfl, ho⟩, hb⟩
    obtain ⟨oa, oc, rfl⟩ := own_shape ho
    exact ⟨⟨oa, m, oc, rfl, Orch.be z m, Orch.be_length _ _, by rw [Orch.be_length]; omega, by rw [Orch.be_length]; exact ho⟩, hb⟩
  go_enter Tryz.func51, Tryz.ntmps51
  go_wp2_with (go_at_call 77; refine HTR.out.mono ?_; rintro e w1 ⟨rfl, hb⟩; have HB1 := hid hb; have c2 := cellOf (j := 2) (HGW.out _ hb) rfl; clear hb)
  refine wp_loop_rounds 2 ?_
  rw [rounds_succ]
  go_wp2
  rw [rounds_succ]
  have HA := hid (below1 w1 (.cells #[.int .u8 79, .int .u8 82, .int .u8 67, .int .u8 72, .int .u8 1] 5))
  have HO1 : Hid ((w1.alloc (.cells #[.int .u8 79, .int .u8 82, .int .u8 67, .int .u8 72, .int .u8 1] 5)).ownsRow w.heap.size 5 1 (.slice (some ⟨w1.heap.size, 0, none⟩) 5 5) ([79, 82, 67, 72, 1] : List UInt8).length (bcells [79, 82, 67, 72, 1])) := World.ownsRow_lit w1 #[.int .u8 79, .int .u8 82, .int .u8 67, .int .u8 72, .int .u8 1] 5 HB1.out.size (by decide) (by decide)
  have HB2 : Hid (Below w.heap.size w (w1.alloc (.cells #[.int .u8 79, .int .u8 82, .int .u8 67, .int .u8 72, .int .u8 1] 5))) := HB1.out.trans (HA.out.mono HB1.out.size)
  have T1 : Hid True := trivial
  have T2 : Hid True := trivial
  have T3 : Hid True := trivial
  have T4 : Hid True := trivial
  go_wp2_with (first
    | (go_at_call 78; clear T1; refine (HY.out _ _ _ (by omega) (by omega) (by omega) (by omega)).mono ?_; rintro e w3 ⟨⟨na, nn, nc, rfl, ns, hns, hnl, hn⟩, hb⟩; have HN := hid hn; have HB3 := hid hb; have HNS := hid hns; have HNL := hid hnl; clear hn hb hns hnl)
    | (go_at_call 78; clear T2; refine (HY.out _ _ _ (by omega) (by omega) (by omega) (by omega)).mono ?_; rintro e w4 ⟨⟨ca, cn, cc, rfl, cs, hcs, hcl, hc⟩, hb⟩; have HC := hid hc; have HB4 := hid hb; have HCS := hid hcs; have HCL := hid hcl; clear hc hb hcs hcl)
    | (at_builtin; clear T3; refine wpList_app w4 rfl _ _ rfl w.heap.size 0 (Nat.le_trans HB2.out.size (Nat.le_trans HB3.out.size HB4.out.size)) _ _ [79, 82, 67, 72, 1] ns rfl rfl (ownsRow_below (ownsRow_below HO1.out HB3.out) HB4.out) (own_mono (ownsRow_below HN.out HB4.out) (Nat.zero_le _)) HNL.out.1 (by have := HNL.out.2; simp; omega) ?_; intro ba5 bn5 bc5 xs5 w5 hbn5 hxl5 ho5 hb5 hg5; have HO5 := hid ho5; have HX5 := hid hxl5; have HB5 : Hid (Below w.heap.size w w5) := (HB2.out.trans ((HB3.out.mono HB2.out.size).trans (HB4.out.mono (Nat.le_trans HB2.out.size HB3.out.size)))).trans hb5; have HC5 := hid (HC.out.kept hg5 (.inr (fun e => by have h1 := (ownBlock_lt HC.out (e.trans rfl)).1; have h2 := HB3.out.size; simp at h1 h2; omega))); clear hbn5 hxl5 ho5 hb5 hg5)
    | (at_builtin; clear T4; refine wpList_app w5 rfl _ _ rfl w.heap.size 0 HB5.out.size _ _ xs5 cs rfl rfl HO5.out (own_mono HC5.out (Nat.zero_le _)) HCL.out.1 (by have := HCL.out.2; have := HX5.out; have := HNL.out.2; simp at *; omega) ?_; intro ba6 bn6 bc6 xs6 w6 hbn6 hxl6 ho6 hb6 hg6; have HO6 := hid ho6; have HX6 := hid hxl6; have HB6 : Hid (Below w.heap.size w w6) := HB5.out.trans hb6; clear hbn6 hxl6 ho6 hb6 hg6))
  have hgw := HGW.out w6 HB6.out
  have p0 := cellOf (j := 0) hgw rfl
  have p1 := cellOf (j := 1) hgw rfl
  have p2 := cellOf (j := 2) hgw rfl
  have p3 := cellOf (j := 3) hgw rfl
  have p4 := cellOf (j := 4) hgw rfl
  have p5 := cellOf (j := 5) hgw rfl
  have HXB : Hid (xs6.length ≤ 100) := by
    have h1 := HX6.out
    have h2 := HX5.out
    have h3 := HNL.out.2
    have h4 := HCL.out.2
    simp at h2
    show _ ≤ _
    omega
  have T5 : Hid True := trivial
  have T6 : Hid True := trivial
  have T7 : Hid True := trivial
  clear hgw HC5 HO5 HN HC HO1 HA HTR
  refine wp_loop_rounds 2 ?_
  rw [rounds_succ]
  go_wp2_with (first
    | (go_at_call 79; refine (nodeBytes_root w6).mono ?_; rintro e w7 ⟨⟨ov, rfl, bs, hbl, hbo⟩, hb⟩; obtain ⟨oa, oc, rfl⟩ := own_shape hbo; have HBO := hid hbo; have HBBL := hid hbl; have HB7 := hid hb; clear hbo hbl hb)
    | (at_builtin; clear T5; refine wpList_app w7 rfl _ _ rfl w.heap.size 0 (Nat.le_trans HB6.out.size HB7.out.size) _ _ xs6 bs rfl rfl (ownsRow_below HO6.out HB7.out) (own_mono HBO.out (Nat.zero_le _)) HBBL.out.1 (by have := HBBL.out.2; have := HXB.out; omega) ?_; intro ba8 bn8 bc8 xs8 w8 hbn8 hxl8 ho8 hb8 hg8; have HO8 := hid ho8; have HX8 := hid hxl8; have HBN8 := hid hbn8; have HB8 : Hid (Below w.heap.size w w8) := (HB6.out.trans (HB7.out.mono HB6.out.size)).trans hb8; clear hbn8 hxl8 ho8 hb8 hg8))
  rw [rounds_succ]
  have HX8B : Hid (1 ≤ xs8.length ∧ xs8.length ≤ 300) := by
    have h1 := HX8.out
    have h2 := HBBL.out
    have h3 := HXB.out
    show _ ∧ _
    omega
  obtain ⟨sg, sc, hsv, _⟩ := own_bytes' HO8.out HX8B.out.1
  have hsv' : ba8 = some ⟨sg, 0, none⟩ ∧ bn8 = xs8.length ∧ bc8 = sc := by simpa using hsv
  obtain ⟨rfl, rfl, rfl⟩ := hsv'
  clear hsv
  have HSUM : Hid (Calls Tryz.prog 80 #[.slice (some ⟨sg, 0, none⟩) xs8.length bc8] w8 fun e w' => (∃ z : Nat, z ≤ 8589934592 ∧ e = .returned (.int .i64 z)) ∧ w' = w8) := sum_any w8 sg xs8.length bc8 xs8 w.heap.size (by have := HX8B.out; omega) HO8.out
  go_wp2_with (first
    | (go_at_call 80; refine HSUM.out.mono ?_; rintro e w9 ⟨⟨z, hz, rfl⟩, hw9⟩; have hw10 := hw9.symm; clear hw9; subst hw10)
    | (go_at_call 78; clear T6; refine (HY.out _ _ _ (by omega) (by omega) (by omega) (by omega)).mono ?_; rintro e w9 ⟨⟨ta, tn, tc, rfl, ts, hts, htl, ht⟩, hb⟩; have HT := hid ht; have HB9 := hid hb; have HTL := hid htl; clear ht hb hts htl)
    | (at_builtin; clear T7; refine wpList_app w9 rfl _ _ rfl w.heap.size 0 (Nat.le_trans HB8.out.size HB9.out.size) _ _ xs8 ts rfl rfl (ownsRow_below HO8.out HB9.out) (own_mono HT.out (Nat.zero_le _)) HTL.out.1 (by have := HTL.out.2; have := HX8B.out; omega) ?_; intro ba10 bn10 bc10 xs10 w10 hbn10 hxl10 ho10 hb10 hg10; have HO10 := hid ho10; have HX10 := hid hxl10; have HB10 : Hid (Below w.heap.size w w10) := (HB8.out.trans (HB9.out.mono HB8.out.size)).trans hb10; clear hbn10 hxl10 ho10 hb10 hg10))
  all_goals go_ret2
  all_goals exact ⟨⟨_, _, rfl, xs10, by have := HX10.out; have := HX8B.out; have := HTL.out; omega, HO10.out⟩, HB10.out⟩

end Go.Proofs.YtlghcldiboecoaaGreatDoor

/- The caller's own goods, and the steps that stand ahead of every script. -/
namespace Go.Proofs.YtlghcldiboecoaaGreatDoor
open Go.RowKit

theorem five_new (w : World) (o0 o1 o2 o3 o4 : Obj) : (((((w.alloc o0).alloc o1).alloc o2).alloc o3).alloc o4).heap[w.heap.size + 1]? = some o1 ∧ (((((w.alloc o0).alloc o1).alloc o2).alloc o3).alloc o4).heap[w.heap.size + 1 + 1]? = some o2 := by
  have s1 : (w.alloc o0).heap.size = w.heap.size + 1 := by simp
  have s2 : ((w.alloc o0).alloc o1).heap.size = w.heap.size + 1 + 1 := by simp
  have s3 : (((w.alloc o0).alloc o1).alloc o2).heap.size = w.heap.size + 1 + 1 + 1 := by simp
  have s4 : ((((w.alloc o0).alloc o1).alloc o2).alloc o3).heap.size = w.heap.size + 1 + 1 + 1 + 1 := by simp
  have h1 := heap_alloc_new (w.alloc o0) o1
  rw [s1] at h1
  have h2 := heap_alloc_new ((w.alloc o0).alloc o1) o2
  rw [s2] at h2
  have b2 := below1 ((w.alloc o0).alloc o1) o2
  have b3 := below1 (((w.alloc o0).alloc o1).alloc o2) o3
  have b4 := below1 ((((w.alloc o0).alloc o1).alloc o2).alloc o3) o4
  exact ⟨(b4.block _ (by omega)).trans ((b3.block _ (by omega)).trans ((b2.block _ (by omega)).trans h1)), (b4.block _ (by omega)).trans ((b3.block _ (by omega)).trans h2)⟩

set_option maxRecDepth 8000 in
set_option maxHeartbeats 4000000 in
theorem known_any (w : World) : Calls Tryz.prog 24 #[] w fun e w' => (∃ a c gt, e = .returned (.agg #[.slice (some ⟨a, 0, none⟩) 1 1, gt]) ∧ (∃ x n m, gt = .slice x n m) ∧ w'.heap[a]? = some (.cells #[.int .i64 0, .string ⟨#[]⟩, .slice (some ⟨c, 0, none⟩) 2 2] 113) ∧ w'.heap[c]? = some (.cells #[.int .i64 (-2), .string ⟨#[]⟩, .slice none 0 0, .int .i64 0, .string ⟨#[97, 98]⟩, .slice none 0 0] 113)) ∧ Below w.heap.size w w' := by
  go_enter Tryz.func24, Tryz.ntmps24
  go_wp2
  refine bodyPost_ret (v := .agg #[.slice (some ⟨w.heap.size + 1 + 1, 0, none⟩) 1 1, .slice (some ⟨w.heap.size + 1 + 1 + 1 + 1, 0, none⟩) 1 1]) (by simp [results, Tryz.results24, go_sem]) rfl ⟨⟨w.heap.size + 1 + 1, w.heap.size + 1, _, rfl, ⟨_, _, _, rfl⟩, ?_, ?_⟩, ?_⟩
  · exact (five_new w _ _ _ _ _).2
  · exact (five_new w _ _ _ _ _).1
  · exact (((((Below.refl w.heap.size w).alloc (by simp) _).alloc (by simp) _).alloc (by simp; omega) _).alloc (by simp; omega) _).alloc (by simp; omega) _

end Go.Proofs.YtlghcldiboecoaaGreatDoor

/- The script is played beside leavers. -/
namespace Go.Proofs.YtlghcldiboecoaaGreatDoor
open Go.RowKit Go.Pair

theorem lone_cell {Shun : Loc → Prop} {w v : World} {A g j : Nat} {x : Value} (h : Sim (BsOf Shun) w v) (ht : ∀ l, Shun l → ∃ a : Addr, l = .cell a ∧ A ≤ a.block) (hg : g < A) (hc : w.cell? ⟨g, j, none⟩ = some x) : v.cell? ⟨g, j, none⟩ = some x := by
  rcases h.like g with ⟨_, e, _⟩ | ⟨⟨a, hs, e⟩, _⟩ | ⟨_, ⟨o, ho, hk⟩, _⟩
  · exact (World.cell?_of_block (w := w) (a := ⟨g, j, none⟩) e).trans hc
  · obtain ⟨a', e', h'⟩ := ht _ hs
    cases e'
    omega
  · exfalso
    unfold World.cell? at hc
    simp only [ho] at hc
    cases o <;> simp_all [okObj]

set_option maxRecDepth 8000 in
set_option maxHeartbeats 4000000 in
theorem opening_rd (w : World) : Calls Tryz.prog 25 #[] w fun e w' => (∃ g cs, e = .returned (.slice (some ⟨g, 0, none⟩) 17 17) ∧ w'.heap[g]? = some (.cells cs 76) ∧
    ∀ i, i < 17 → ∃ k : Int, cs[i * 6]? = some (.int .i64 k) ∧ (3 ≤ k → k ≤ 5 → ∃ s : ByteArray, cs[i * 6 + 1]? = some (.int .i64 0) ∧ cs[i * 6 + 2]? = some (.int .i64 0) ∧ cs[i * 6 + 3]? = some (.int .i64 0) ∧ cs[i * 6 + 4]? = some (.string s) ∧ cs[i * 6 + 5]? = some (.string ⟨#[]⟩) ∧ s.size ≤ 8)) ∧ Below w.heap.size w w' := by
  have HS := hid (fun W g hg => save_root W g hg)
  have HN := hid (heap_alloc_new w (.cells #[.string ⟨#[47]⟩, .string ⟨#[]⟩, .string ⟨#[]⟩, .int .i64 0, .int .i64 0, .int .i64 0] 115))
  have HB0 := hid (below1 w (.cells #[.string ⟨#[47]⟩, .string ⟨#[]⟩, .string ⟨#[]⟩, .int .i64 0, .int .i64 0, .int .i64 0] 115))
  go_enter Tryz.func25, Tryz.ntmps25
  go_wp2_with (go_at_call 51; refine (HS.out _ _ HN.out).mono ?_; rintro e w1 ⟨⟨ov, code, rfl, bs, hbl, ho⟩, hb⟩; obtain ⟨oa, oc, rfl⟩ := own_shape ho; have hcv := conv_own ho; have HB1 := hid hb; clear ho hb hbl)
  all_goals go_ret
  refine ⟨⟨w1.heap.size, _, rfl, heap_alloc_new _ _, fun i h2 => ?_⟩, ?_⟩
  · obtain rfl | rfl | rfl | rfl | rfl | rfl | rfl | rfl | rfl | rfl | rfl | rfl | rfl | rfl | rfl | rfl | rfl : i = 0 ∨ i = 1 ∨ i = 2 ∨ i = 3 ∨ i = 4 ∨ i = 5 ∨ i = 6 ∨ i = 7 ∨ i = 8 ∨ i = 9 ∨ i = 10 ∨ i = 11 ∨ i = 12 ∨ i = 13 ∨ i = 14 ∨ i = 15 ∨ i = 16 := by omega
    all_goals refine ⟨_, rfl, fun h3 h5 => ?_⟩
    all_goals first
      | exact absurd h3 (by decide)
      | exact absurd h5 (by decide)
      | exact ⟨_, rfl, rfl, rfl, rfl, rfl, by decide⟩
  · have hb := HB0.out.trans (HB1.out.mono HB0.out.size)
    exact hb.alloc hb.size _

/-- A new caller. -/
theorem Rw.fresh {v : World} {L WB : Nat} {gv gt : Value} (hb : v.heap[WB]? = some (.cells #[gv, gt, .slice none 0 0, .slice none 0 0, .slice none 0 0, .slice none 0 0, .slice none 0 0, .slice none 0 0] 73)) (hL : WB < L) (hv : L ≤ v.heap.size) : Rw v L WB (fun _ => False) gv gt none 0 [] 0 0 0 :=
  ⟨⟨none, 0, [], none, 0, [], ⟨hb, World.ownsRow_nil _ _ _ _, World.ownsRow_nil _ _ _ _, hv, fun i hi => by omega, fun i hi => by omega, fun g h => h.elim⟩⟩, World.ownsRow_nil _ _ _ _, fun i r h => by simp at h, fun i j r s h => by simp at h, fun i r h => by simp at h, fun g h => h.elim, hL⟩

noncomputable def PAct (s : Nat → Value) : Act := { tmps := #[s 0, s 1, s 2, s 3, s 4, s 5, s 6, s 7, s 8, s 9, s 10, s 11, s 12, s 13, s 14, s 15, s 16, s 17, s 18, s 19, s 20, s 21, s 22, s 23, s 24, s 25, s 26, s 27, s 28, s 29, s 30, s 31, s 32, s 33, s 34, s 35, s 36, s 37, s 38, s 39, s 40, s 41, s 42, s 43, s 44, s 45, s 46, s 47, s 48, s 49, s 50, s 51, s 52, s 53, s 54, s 55, s 56, s 57, s 58, s 59, s 60, s 61, s 62, s 63, s 64, s 65, s 66, s 67, s 68, s 69, s 70, s 71, s 72, s 73, s 74, s 75, s 76, s 77, s 78, s 79, s 80, s 81, s 82, s 83, s 84, s 85, s 86, s 87, s 88, s 89, s 90, s 91], defers := [] }
theorem pget {a : Act} {P : (Nat → Value) → Prop} (h : a = PAct fun j => a.tmps.getD j undef) (hp : P fun j => a.tmps.getD j undef) : ∃ s', a = PAct s' ∧ P s' := ⟨_, h, hp⟩

/-- What stands between two pieces. -/
theorem wpE_cut {Post : Value → World → Prop} {fn : FuncId} {Q : Exit → Act → World → (Loc → Prop) → Prop} {a : Act} {w : World} {Shun : Loc → Prop} {x y : Code} (Pm : Act → World → (Loc → Prop) → Prop) (h2 : ∀ a w S, Pm a w S → wpE Tryz.prog Post fn y Q a w S) (h1 : wpE Tryz.prog Post fn x (Then Pm Q) a w Shun) : wpE Tryz.prog Post fn (.seq x y) Q a w Shun :=
  wpE_seq (wpE_mono h1 fun e a w S q => by
    cases e with
    | normal => exact h2 a w S q
    | _ => exact q)

theorem Jr.mono {A L WB : Nat} {x0 x1 : Value} {tot N M tot' N' M' : Nat} {w : World} {Shun : Loc → Prop} (h : Jr A L WB x0 x1 tot N M w Shun) (h1 : tot ≤ tot') (h2 : N ≤ N') (h3 : M ≤ M') : Jr A L WB x0 x1 tot' N' M' w Shun := by
  obtain ⟨hS, hTop, v, S, ra, rc, rds, tot0, N0, M0, hs, hR, k1, k2, k3, k4⟩ := h
  exact ⟨hS, hTop, v, S, ra, rc, rds, tot0, N0, M0, hs, hR, by omega, by omega, by omega, by omega⟩

/-- Behind a piece of code that changes nothing. -/
theorem Jr.kept {A L WB : Nat} {x0 x1 : Value} {tot N M : Nat} {w w' v v' : World} {Shun : Loc → Prop} (h : Jr A L WB x0 x1 tot N M w Shun) (hk : Kept (BsOf Shun) w w') (hv : Sim (BsOf Shun) w v) (hv' : Sim (BsOf Shun) w' v') (hb : Up v v') : Jr A L WB x0 x1 tot N M w' Shun ∧ Lor L WB w w' := by
  obtain ⟨hS, hTop, v0, S, ra, rc, rds, tot0, N0, M0, hs, hR, k1, k2, k3, k4⟩ := h
  have hR' := hR.heap (Sim.heap hv hs)
  exact ⟨⟨hS.kept hk, hTop, v', S, ra, rc, rds, tot0, N0, M0, hv', hb.rw hR', k1, k2, k3, k4⟩, ⟨hk.grow, fun i hi _ => Sim.stay hk hv hv' (hb.block i (by have := hR'.le; omega))⟩⟩

theorem Up.same {v v' : World} (h : v'.heap = v.heap) : Up v v' := ⟨by rw [h]; exact Nat.le_refl _, fun i _ => by rw [h]⟩
end Go.Proofs.YtlghcldiboecoaaGreatDoor
