/- The document's Save at one tree: the root. -/
import Derived.Test.YtlghcldiboecoaaGreatDoorQ07
import Derived.Deep.RegionHeld3
import Derived.Lib.SmallJoins
import Derived.Deep.Strs
import Derived.WideKeyArgs
import Derived.OpenShut
set_option linter.unusedVariables false
namespace Go.Proofs.YtlghcldiboecoaaGreatDoor
open Go.RowKit

set_option maxRecDepth 8000 in
set_option maxHeartbeats 2000000 in
theorem path_root (w : World) : Calls Tryz.prog 124 #[.string ⟨#[47]⟩] w fun e w' => e = .returned (.bool true) ∧ w' = w := by
  go_enter Tryz.func124, Tryz.ntmps124
  go_wp2
  all_goals go_ret
  all_goals exact ⟨rfl, rfl⟩

set_option maxRecDepth 8000 in
set_option maxHeartbeats 4000000 in
theorem sum_any (w : World) (g n cap : Nat) (xs : List UInt8) (base : Nat) (hn : n ≤ 100000) (hown : w.ownsRow base 5 1 (.slice (some ⟨g, 0, none⟩) n cap) n (bcells xs)) :
    Calls Tryz.prog 80 #[.slice (some ⟨g, 0, none⟩) n cap] w fun e w' => (∃ z : Nat, z ≤ 8589934592 ∧ e = .returned (.int .i64 z)) ∧ w' = w := by
  have hxl : xs.length = n := by have := hown.1; rw [bcells_len] at this; omega
  have hcap : n ≤ cap := by
    rcases hown.2 with ⟨h, _⟩ | ⟨g', cap', cur, h, _, _, h3, _⟩
    · cases h
    · cases h; exact h3
  have HCL : Hid (∀ i, i < n → ∃ x : UInt8, w.cell? ⟨g, i, none⟩ = some (.int .u8 x.toNat)) := fun i hi => by
    have h := hown.cells (g := g) rfl i (.int .u8 (xs[i]'(by omega)).toNat) (by simp [bcells, hxl, hi])
    rw [Addr.add_lit, Nat.zero_add] at h
    exact ⟨_, h⟩
  clear hown hxl
  go_enter Tryz.func80, Tryz.ntmps80
  go_wp2
  go_loop [3, 4, 5] (fun u v k => ∃ A C i : Nat, u = .int .i64 A ∧ v = .int .i64 C ∧ k = .int .i64 i ∧ A ≤ 65521 ∧ C ≤ 65521 ∧ i ≤ n) (fun _ _ k => n - (intOf k).toNat)
  case atStart => exact ⟨1, n % 65521, 0, rfl, by first | rfl | simp [Int.tmod], rfl, by omega, by omega, by omega⟩
  case round =>
    obtain ⟨A, C, i, rfl, rfl, rfl, hA, hC, hi⟩ := hrel
    by_cases hlt : i < n
    · have hltz : (i : Int) < (n : Int) := by omega
      obtain ⟨x, hx⟩ := HCL.out i hlt
      have hx8 : x.toNat < 256 := x.toNat_lt
      obtain ⟨y, hy⟩ : ∃ y : Nat, y = x.toNat := ⟨_, rfl⟩
      rw [← hy] at hx hx8
      clear hy
      obtain ⟨d, hd, hd'⟩ : ∃ d : Nat, ((n : Int) - (i : Int)).tmod 65521 = (d : Int) ∧ d ≤ 65520 := by
        refine ⟨(n - i) % 65521, ?_, by omega⟩
        rw [show ((n : Int) - (i : Int)) = ((n - i : Nat) : Int) by omega]
        rfl
      have hp : y * d ≤ 255 * 65520 := Nat.mul_le_mul (by omega) hd'
      obtain ⟨p, hpe⟩ : ∃ p : Nat, p = y * d := ⟨_, rfl⟩
      have hpz : (y : Int) * (d : Int) = (p : Int) := by rw [hpe]; rfl
      rw [← hpe] at hp
      clear hpe
      go_wp2
      all_goals go_round
      case rel => exact ⟨(A + y) % 65521, (C + p) % 65521, i + 1, by go_num, by go_num, by go_num, by omega, by omega, by omega⟩
      case measure => simp [intOf]; omega
    · have hltz : ¬ (i : Int) < (n : Int) := by omega
      go_wp2
      all_goals go_ret
      exact ⟨⟨65536 * C + A, by omega, by go_num⟩, rfl⟩

set_option maxRecDepth 8000 in
set_option maxHeartbeats 4000000 in
theorem tree_root (w : World) (g : Nat) (hg : w.heap[g]? = some (.cells #[.string ⟨#[47]⟩, .string ⟨#[]⟩, .string ⟨#[]⟩, .int .i64 0, .int .i64 0, .int .i64 0] 115)) :
    Calls Tryz.prog 77 #[.int .i64 0, .slice (some ⟨g, 0, none⟩) 1 1] w fun e w' => e = .returned (.bool true) ∧ Below w.heap.size w w' := by
  have c0 := cellOf (j := 0) hg rfl
  have c1 := cellOf (j := 1) hg rfl
  have c2 := cellOf (j := 2) hg rfl
  have c3 := cellOf (j := 3) hg rfl
  have c4 := cellOf (j := 4) hg rfl
  have c5 := cellOf (j := 5) hg rfl
  have hb := below1 w (.cells #[.string ⟨#[47]⟩, .string ⟨#[]⟩, .string ⟨#[]⟩, .int .i64 0, .int .i64 0, .int .i64 0] 115)
  have hn := heap_alloc_new w (.cells #[.string ⟨#[47]⟩, .string ⟨#[]⟩, .string ⟨#[]⟩, .int .i64 0, .int .i64 0, .int .i64 0] 115)
  have d0 := cellOf (j := 0) hn rfl
  have d1 := cellOf (j := 1) hn rfl
  have d2 := cellOf (j := 2) hn rfl
  have d3 := cellOf (j := 3) hn rfl
  have d4 := cellOf (j := 4) hn rfl
  have d5 := cellOf (j := 5) hn rfl
  have HU := hid (fun W => utf8_any ⟨#[]⟩ W (by decide))
  have HB := hid hb
  clear hg hb hn
  go_enter Tryz.func77, Tryz.ntmps77
  go_wp2
  refine wp_loop_rounds 2 ?_
  rw [rounds_succ]
  go_wp2_with (first
    | (go_at_call 124; refine (path_root _).mono ?_; rintro e w1 ⟨rfl, hw1⟩; have hw2 := hw1.symm; clear hw1; subst hw2)
    | (go_at_call 125; refine (HU.out _).mono ?_; rintro e w1 ⟨rfl, hw1⟩; have hw2 := hw1.symm; clear hw1; subst hw2))
  rw [rounds_succ]
  go_wp2
  all_goals go_ret
  all_goals exact ⟨rfl, HB.out⟩

/-- The bytes of the root in a file of version 1. -/
def rootV : Orch.V := .mk 0 ⟨#[]⟩ [.mk 0 ⟨#[47]⟩ [], .mk 0 ⟨#[]⟩ [], .mk 0 ⟨#[]⟩ [], .mk 0 ⟨#[]⟩ [], .mk 0 ⟨#[]⟩ []]

def rootS : ByteArray := ⟨#[40, 116, 98, 56, 56, 52, 41]⟩

theorem root_laid : ∃ t b, Orch.ptype 9 rootS.data.toList = some (t, []) ∧ Orch.laidT validB 9 t rootV = some b ∧ (1 ≤ b.length ∧ b.length ≤ 100) := by
  refine ⟨_, _, rfl, rfl, ?_⟩
  decide

theorem inV_root : InV rootV := by
  refine .mk _ _ _ ⟨by omega, by omega⟩ (by decide) (by decide) (fun e he => ?_)
  simp only [List.mem_cons, List.mem_nil_iff, or_false] at he
  rcases he with rfl | rfl | rfl | rfl | rfl <;> exact .mk _ _ _ ⟨by omega, by omega⟩ (by decide) (by decide) (fun e he => by cases he)

theorem root_ws {W : World} {g : Nat} (hg : W.heap[g]? = some (.cells #[.int .i64 0, .string ⟨#[47]⟩, .slice none 0 0, .int .i64 0, .string ⟨#[]⟩, .slice none 0 0, .int .i64 0, .string ⟨#[]⟩, .slice none 0 0, .int .i64 0, .string ⟨#[]⟩, .slice none 0 0, .int .i64 0, .string ⟨#[]⟩, .slice none 0 0] 113)) : WsAt W (fun b => b < W.heap.size) rootV.l (.slice (some ⟨g, 0, none⟩) 5 5) := by
  refine WsAt.row [(.mk 0 ⟨#[47]⟩ [], .slice none 0 0), (.mk 0 ⟨#[]⟩ [], .slice none 0 0), (.mk 0 ⟨#[]⟩ [], .slice none 0 0), (.mk 0 ⟨#[]⟩ [], .slice none 0 0), (.mk 0 ⟨#[]⟩ [], .slice none 0 0)] g 0 5 (by simp) (by simp) (ltOf hg) (fun j u hj => ?_) (fun p hp => ?_)
  · rw [Nat.zero_add]
    refine cellOf hg ?_
    rw [← Array.getElem?_toList]
    exact hj
  · simp only [List.mem_cons, List.mem_nil_iff, or_false] at hp
    rcases hp with rfl | rfl | rfl | rfl | rfl <;> exact .nil

set_option maxRecDepth 8000 in
set_option maxHeartbeats 4000000 in
theorem nodeBytes_root (w : World) :
    Calls Tryz.prog 79 #[.int .i64 1, .agg #[.string ⟨#[47]⟩, .string ⟨#[]⟩, .string ⟨#[]⟩, .int .i64 0, .int .i64 0, .int .i64 0]] w fun e w' => (∃ ov, e = .returned ov ∧ ∃ bs : List UInt8, (1 ≤ bs.length ∧ bs.length ≤ 100) ∧ w'.ownsRow w.heap.size 5 1 ov bs.length (bcells bs)) ∧ Below w.heap.size w w' := by
  have hn := heap_alloc_new w (.cells #[.string ⟨#[47]⟩, .string ⟨#[]⟩, .string ⟨#[]⟩, .int .i64 0, .int .i64 0, .int .i64 0] 115)
  have d0 := cellOf (j := 0) hn rfl
  have d1 := cellOf (j := 1) hn rfl
  have d2 := cellOf (j := 2) hn rfl
  have d3 := cellOf (j := 3) hn rfl
  have d4 := cellOf (j := 4) hn rfl
  have d5 := cellOf (j := 5) hn rfl
  clear hn
  obtain ⟨ty, bs, hp, hl, hbl⟩ := root_laid
  have HL : Hid (∀ W g, W.heap[g]? = some (.cells #[.int .i64 0, .string ⟨#[47]⟩, .slice none 0 0, .int .i64 0, .string ⟨#[]⟩, .slice none 0 0, .int .i64 0, .string ⟨#[]⟩, .slice none 0 0, .int .i64 0, .string ⟨#[]⟩, .slice none 0 0, .int .i64 0, .string ⟨#[]⟩, .slice none 0 0] 113) → Calls Tryz.prog 128 #[.string ⟨#[40, 116, 98, 56, 56, 52, 41]⟩, .agg #[.int .i64 0, .string ⟨#[]⟩, .slice (some ⟨g, 0, none⟩) 5 5]] W fun e w' => (∃ ov ok, e = .returned (.tuple #[ov, .bool ok]) ∧ w'.ownsRow W.heap.size 5 1 ov bs.length (bcells bs)) ∧ Below W.heap.size W w') := by
    intro W g hg
    refine (ld_all 9 (Nat.le_refl _) W rootS ty (by decide) hp rootV inV_root _ (root_ws hg)).mono ?_
    rintro e w' ⟨h, hb⟩
    rw [hl] at h
    obtain ⟨ov, ok, rfl, _, _, ho⟩ := h
    exact ⟨⟨ov, ok, rfl, ho⟩, hb⟩
  have HR := hid ((below1 ((w.alloc (.cells #[.string ⟨#[47]⟩, .string ⟨#[]⟩, .string ⟨#[]⟩, .int .i64 0, .int .i64 0, .int .i64 0] 115)).alloc (.cells #[.int .i64 0, .string ⟨#[47]⟩, .slice none 0 0, .int .i64 0, .string ⟨#[]⟩, .slice none 0 0, .int .i64 0, .string ⟨#[]⟩, .slice none 0 0, .int .i64 0, .string ⟨#[]⟩, .slice none 0 0, .int .i64 0, .string ⟨#[]⟩, .slice none 0 0] 113)) (.cells #[.int .i64 0, .string ⟨#[]⟩, .slice (some ⟨w.heap.size + 1, 0, none⟩) 5 5] 113)).block (w.heap.size + 1) (by simp))
  have HR2 := hid (heap_alloc_new (w.alloc (.cells #[.string ⟨#[47]⟩, .string ⟨#[]⟩, .string ⟨#[]⟩, .int .i64 0, .int .i64 0, .int .i64 0] 115)) (.cells #[.int .i64 0, .string ⟨#[47]⟩, .slice none 0 0, .int .i64 0, .string ⟨#[]⟩, .slice none 0 0, .int .i64 0, .string ⟨#[]⟩, .slice none 0 0, .int .i64 0, .string ⟨#[]⟩, .slice none 0 0, .int .i64 0, .string ⟨#[]⟩, .slice none 0 0] 113))
  have HS1 : Hid ((w.alloc (.cells #[.string ⟨#[47]⟩, .string ⟨#[]⟩, .string ⟨#[]⟩, .int .i64 0, .int .i64 0, .int .i64 0] 115)).heap.size = w.heap.size + 1) := by show _ = _; simp
  have HBLW := hid ((below2 w (.cells #[.string ⟨#[47]⟩, .string ⟨#[]⟩, .string ⟨#[]⟩, .int .i64 0, .int .i64 0, .int .i64 0] 115) (.cells #[.int .i64 0, .string ⟨#[47]⟩, .slice none 0 0, .int .i64 0, .string ⟨#[]⟩, .slice none 0 0, .int .i64 0, .string ⟨#[]⟩, .slice none 0 0, .int .i64 0, .string ⟨#[]⟩, .slice none 0 0, .int .i64 0, .string ⟨#[]⟩, .slice none 0 0] 113)).trans ((below1 ((w.alloc (.cells #[.string ⟨#[47]⟩, .string ⟨#[]⟩, .string ⟨#[]⟩, .int .i64 0, .int .i64 0, .int .i64 0] 115)).alloc (.cells #[.int .i64 0, .string ⟨#[47]⟩, .slice none 0 0, .int .i64 0, .string ⟨#[]⟩, .slice none 0 0, .int .i64 0, .string ⟨#[]⟩, .slice none 0 0, .int .i64 0, .string ⟨#[]⟩, .slice none 0 0, .int .i64 0, .string ⟨#[]⟩, .slice none 0 0] 113)) (.cells #[.int .i64 0, .string ⟨#[]⟩, .slice (some ⟨w.heap.size + 1, 0, none⟩) 5 5] 113)).mono (by simp; omega)))
  have HROW : Hid ((((w.alloc (.cells #[.string ⟨#[47]⟩, .string ⟨#[]⟩, .string ⟨#[]⟩, .int .i64 0, .int .i64 0, .int .i64 0] 115)).alloc (.cells #[.int .i64 0, .string ⟨#[47]⟩, .slice none 0 0, .int .i64 0, .string ⟨#[]⟩, .slice none 0 0, .int .i64 0, .string ⟨#[]⟩, .slice none 0 0, .int .i64 0, .string ⟨#[]⟩, .slice none 0 0, .int .i64 0, .string ⟨#[]⟩, .slice none 0 0] 113)).alloc (.cells #[.int .i64 0, .string ⟨#[]⟩, .slice (some ⟨w.heap.size + 1, 0, none⟩) 5 5] 113)).heap[w.heap.size + 1]? = some (.cells #[.int .i64 0, .string ⟨#[47]⟩, .slice none 0 0, .int .i64 0, .string ⟨#[]⟩, .slice none 0 0, .int .i64 0, .string ⟨#[]⟩, .slice none 0 0, .int .i64 0, .string ⟨#[]⟩, .slice none 0 0, .int .i64 0, .string ⟨#[]⟩, .slice none 0 0] 113)) := by
    have h2 := HR2.out
    rw [HS1.out] at h2
    exact HR.out.trans h2
  clear HR HR2 HS1
  have HBLN := hid hbl
  clear hbl hp hl
  go_enter Tryz.func79, Tryz.ntmps79
  go_wp2_with (go_at_call 128; refine (HL.out _ _ HROW.out).mono ?_; rintro e w1 ⟨⟨ov, ok, rfl, ho⟩, hb⟩; obtain ⟨oa, oc, rfl⟩ := own_shape ho; have HO := hid ho; have HB1 := hid hb; clear ho hb)
  all_goals go_ret
  all_goals exact ⟨⟨_, rfl, bs, HBLN.out, own_mono HO.out HBLW.out.size⟩, HBLW.out.trans (HB1.out.mono HBLW.out.size)⟩

/-- Bytes are appended to bytes. -/
theorem wpList_app {ops : Array Oper} {rest : List Oper} {o : Oper} {a : Act} {Q : Exit → Act → World → Prop} (W : World) (hgd : o.guard = none) (s x : Operand) (ho : o.op = .call { callee := .builtin .append, args := #[s, x], argTypes := #[57, 57] })
    (B B' : Nat) (hB : B ≤ W.heap.size) (v u : Value) (xs ys : List UInt8) (hs : a.eval s = v) (hx : a.eval x = u) (hown : W.ownsRow B 5 1 v xs.length (bcells xs)) (huo : W.ownsRow B' 5 1 u ys.length (bcells ys)) (h0 : 1 ≤ ys.length) (hsm : xs.length + ys.length ≤ 100000)
    (h : ∀ oa on oc zs w', on = zs.length → zs.length = xs.length + ys.length → w'.ownsRow B 5 1 (.slice oa on oc) zs.length (bcells zs) → Below B W w' → W.grownBy w' v.ownBlock → wpList Tryz.prog ops Q rest (a.put o.dst (.slice oa on oc)) w') : wpList Tryz.prog ops Q (o :: rest) a W := by
  obtain ⟨cg, cc, hu, hcells⟩ := own_bytes' huo h0
  obtain ⟨i0, hi0, hz0, hz1, hz2⟩ := info_parts Tryz.info5
  refine wpList_append_own_at W hgd s x 57 ho B 5 i0 (.int .u8 0) 1 1 Tryz.underlying57 hi0 hz0 hz1 hz2 rfl (by decide) v xs.length (bcells xs) hs hown ⟨cg, 0, none⟩ ys.length cc (bcells ys) (hx.trans hu) (by rw [bcells_len, Nat.mul_one]) hcells (bcells_one ys) (by unfold maxLen; omega) (by omega) hB ?_
  intro v' w' ho' hg _ _
  obtain ⟨oa, oc, rfl⟩ := own_shape ho'
  refine h oa _ oc (xs ++ ys) w' List.length_append.symm List.length_append ?_ ⟨hg.os, hg.tape, hg.output, hg.size, fun k hk => hg.block k (by omega) (fun e => by have := (ownBlock_lt hown e.symm).1; omega)⟩ hg
  rw [bcells_app, List.length_append]
  exact ho'

set_option maxRecDepth 8000 in
set_option maxHeartbeats 4000000 in
theorem save_root (w : World) (g : Nat) (hg : w.heap[g]? = some (.cells #[.string ⟨#[47]⟩, .string ⟨#[]⟩, .string ⟨#[]⟩, .int .i64 0, .int .i64 0, .int .i64 0] 115)) :
    Calls Tryz.prog 51 #[.int .i64 1, .int .i64 0, .slice (some ⟨g, 0, none⟩) 1 1] w fun e w' => (∃ ov code, e = .returned (.tuple #[ov, code]) ∧ ∃ bs : List UInt8, bs.length ≤ 1000 ∧ w'.ownsRow w.heap.size 5 1 ov bs.length (bcells bs)) ∧ Below w.heap.size w w' := by
  have HG := hid hg
  have HTR : Hid (Calls Tryz.prog 77 #[.int .i64 0, .slice (some ⟨g, 0, none⟩) 1 1] w fun e w' => e = .returned (.bool true) ∧ Below w.heap.size w w') := tree_root w g hg
  clear hg
  have HGW : Hid (∀ W, Below w.heap.size w W → W.heap[g]? = some (.cells #[.string ⟨#[47]⟩, .string ⟨#[]⟩, .string ⟨#[]⟩, .int .i64 0, .int .i64 0, .int .i64 0] 115)) := fun W hb => (hb.block _ (ltOf HG.out)).trans HG.out
  have HY : Hid (∀ (W : World) (z : Int) (k : Int), 1 ≤ k → k ≤ 8 → 0 ≤ z → z ≤ 8589934592 → Calls Tryz.prog 78 #[.int .i64 z, .int .i64 k] W fun e w' => (∃ oa on oc, e = .returned (.slice oa on oc) ∧ ∃ ys : List UInt8, ys.length = on ∧ (1 ≤ ys.length ∧ ys.length ≤ 8) ∧ w'.ownsRow W.heap.size 5 1 (.slice oa on oc) ys.length (bcells ys)) ∧ Below W.heap.size W w') := by
    intro W z k h1 h2 h3 h4
    obtain ⟨m, rfl⟩ := Int.eq_ofNat_of_zero_le (show 0 ≤ k by omega)
    refine (bytesOf_any W z (by omega) (by omega) m (by omega) (by omega)).mono ?_
    rintro e w' ⟨⟨ov, rfl, ho⟩, hb⟩
    obtain ⟨oa, oc, rfl⟩ := own_shape ho
    exact ⟨⟨oa, m, oc, rfl, Orch.be z m, Orch.be_length _ _, by rw [Orch.be_length]; omega, by rw [Orch.be_length]; exact ho⟩, hb⟩
  go_enter Tryz.func51, Tryz.ntmps51
  go_wp2_with (go_at_call 77; refine HTR.out.mono ?_; rintro e w1 ⟨rfl, hb⟩; have HB1 := hid hb; have c2 := cellOf (j := 2) (HGW.out _ hb) rfl; clear hb)
  refine wp_loop_rounds 2 ?_
  rw [rounds_succ]
  go_wp2
  rw [rounds_succ]
  have HA := hid (below1 w1 (.cells #[.int .u8 79, .int .u8 82, .int .u8 67, .int .u8 72, .int .u8 1] 5))
  have HO1 : Hid ((w1.alloc (.cells #[.int .u8 79, .int .u8 82, .int .u8 67, .int .u8 72, .int .u8 1] 5)).ownsRow w.heap.size 5 1 (.slice (some ⟨w1.heap.size, 0, none⟩) 5 5) ([79, 82, 67, 72, 1] : List UInt8).length (bcells [79, 82, 67, 72, 1])) := World.ownsRow_lit w1 #[.int .u8 79, .int .u8 82, .int .u8 67, .int .u8 72, .int .u8 1] 5 HB1.out.size (by decide) (by decide)
  have HB2 : Hid (Below w.heap.size w (w1.alloc (.cells #[.int .u8 79, .int .u8 82, .int .u8 67, .int .u8 72, .int .u8 1] 5))) := HB1.out.trans (HA.out.mono HB1.out.size)
  have T1 : Hid True := trivial
  have T2 : Hid True := trivial
  have T3 : Hid True := trivial
  have T4 : Hid True := trivial
  go_wp2_with (first
    | (go_at_call 78; clear T1; refine (HY.out _ _ _ (by omega) (by omega) (by omega) (by omega)).mono ?_; rintro e w3 ⟨⟨na, nn, nc, rfl, ns, hns, hnl, hn⟩, hb⟩; have HN := hid hn; have HB3 := hid hb; have HNS := hid hns; have HNL := hid hnl; clear hn hb hns hnl)
    | (go_at_call 78; clear T2; refine (HY.out _ _ _ (by omega) (by omega) (by omega) (by omega)).mono ?_; rintro e w4 ⟨⟨ca, cn, cc, rfl, cs, hcs, hcl, hc⟩, hb⟩; have HC := hid hc; have HB4 := hid hb; have HCS := hid hcs; have HCL := hid hcl; clear hc hb hcs hcl)
    | (at_builtin; clear T3; refine wpList_app w4 rfl _ _ rfl w.heap.size 0 (Nat.le_trans HB2.out.size (Nat.le_trans HB3.out.size HB4.out.size)) _ _ [79, 82, 67, 72, 1] ns rfl rfl (ownsRow_below (ownsRow_below HO1.out HB3.out) HB4.out) (own_mono (ownsRow_below HN.out HB4.out) (Nat.zero_le _)) HNL.out.1 (by have := HNL.out.2; simp; omega) ?_; intro ba5 bn5 bc5 xs5 w5 hbn5 hxl5 ho5 hb5 hg5; have HO5 := hid ho5; have HX5 := hid hxl5; have HB5 : Hid (Below w.heap.size w w5) := (HB2.out.trans ((HB3.out.mono HB2.out.size).trans (HB4.out.mono (Nat.le_trans HB2.out.size HB3.out.size)))).trans hb5; have HC5 := hid (HC.out.kept hg5 (.inr (fun e => by have h1 := (ownBlock_lt HC.out (e.trans rfl)).1; have h2 := HB3.out.size; simp at h1 h2; omega))); clear hbn5 hxl5 ho5 hb5 hg5)
    | (at_builtin; clear T4; refine wpList_app w5 rfl _ _ rfl w.heap.size 0 HB5.out.size _ _ xs5 cs rfl rfl HO5.out (own_mono HC5.out (Nat.zero_le _)) HCL.out.1 (by have := HCL.out.2; have := HX5.out; have := HNL.out.2; simp at *; omega) ?_; intro ba6 bn6 bc6 xs6 w6 hbn6 hxl6 ho6 hb6 hg6; have HO6 := hid ho6; have HX6 := hid hxl6; have HB6 : Hid (Below w.heap.size w w6) := HB5.out.trans hb6; clear hbn6 hxl6 ho6 hb6 hg6))
  have hgw := HGW.out w6 HB6.out
  have p0 := cellOf (j := 0) hgw rfl
  have p1 := cellOf (j := 1) hgw rfl
  have p2 := cellOf (j := 2) hgw rfl
  have p3 := cellOf (j := 3) hgw rfl
  have p4 := cellOf (j := 4) hgw rfl
  have p5 := cellOf (j := 5) hgw rfl
  have HXB : Hid (xs6.length ≤ 100) := by
    have h1 := HX6.out
    have h2 := HX5.out
    have h3 := HNL.out.2
    have h4 := HCL.out.2
    simp at h2
    show _ ≤ _
    omega
  have T5 : Hid True := trivial
  have T6 : Hid True := trivial
  have T7 : Hid True := trivial
  clear hgw HC5 HO5 HN HC HO1 HA HTR
  refine wp_loop_rounds 2 ?_
  rw [rounds_succ]
  go_wp2_with (first
    | (go_at_call 79; refine (nodeBytes_root w6).mono ?_; rintro e w7 ⟨⟨ov, rfl, bs, hbl, hbo⟩, hb⟩; obtain ⟨oa, oc, rfl⟩ := own_shape hbo; have HBO := hid hbo; have HBBL := hid hbl; have HB7 := hid hb; clear hbo hbl hb)
    | (at_builtin; clear T5; refine wpList_app w7 rfl _ _ rfl w.heap.size 0 (Nat.le_trans HB6.out.size HB7.out.size) _ _ xs6 bs rfl rfl (ownsRow_below HO6.out HB7.out) (own_mono HBO.out (Nat.zero_le _)) HBBL.out.1 (by have := HBBL.out.2; have := HXB.out; omega) ?_; intro ba8 bn8 bc8 xs8 w8 hbn8 hxl8 ho8 hb8 hg8; have HO8 := hid ho8; have HX8 := hid hxl8; have HBN8 := hid hbn8; have HB8 : Hid (Below w.heap.size w w8) := (HB6.out.trans (HB7.out.mono HB6.out.size)).trans hb8; clear hbn8 hxl8 ho8 hb8 hg8))
  rw [rounds_succ]
  have HX8B : Hid (1 ≤ xs8.length ∧ xs8.length ≤ 300) := by
    have h1 := HX8.out
    have h2 := HBBL.out
    have h3 := HXB.out
    show _ ∧ _
    omega
  obtain ⟨sg, sc, hsv, _⟩ := own_bytes' HO8.out HX8B.out.1
  have hsv' : ba8 = some ⟨sg, 0, none⟩ ∧ bn8 = xs8.length ∧ bc8 = sc := by simpa using hsv
  obtain ⟨rfl, rfl, rfl⟩ := hsv'
  clear hsv
  have HSUM : Hid (Calls Tryz.prog 80 #[.slice (some ⟨sg, 0, none⟩) xs8.length bc8] w8 fun e w' => (∃ z : Nat, z ≤ 8589934592 ∧ e = .returned (.int .i64 z)) ∧ w' = w8) := sum_any w8 sg xs8.length bc8 xs8 w.heap.size (by have := HX8B.out; omega) HO8.out
  go_wp2_with (first
    | (go_at_call 80; refine HSUM.out.mono ?_; rintro e w9 ⟨⟨z, hz, rfl⟩, hw9⟩; have hw10 := hw9.symm; clear hw9; subst hw10)
    | (go_at_call 78; clear T6; refine (HY.out _ _ _ (by omega) (by omega) (by omega) (by omega)).mono ?_; rintro e w9 ⟨⟨ta, tn, tc, rfl, ts, hts, htl, ht⟩, hb⟩; have HT := hid ht; have HB9 := hid hb; have HTL := hid htl; clear ht hb hts htl)
    | (at_builtin; clear T7; refine wpList_app w9 rfl _ _ rfl w.heap.size 0 (Nat.le_trans HB8.out.size HB9.out.size) _ _ xs8 ts rfl rfl (ownsRow_below HO8.out HB9.out) (own_mono HT.out (Nat.zero_le _)) HTL.out.1 (by have := HTL.out.2; have := HX8B.out; omega) ?_; intro ba10 bn10 bc10 xs10 w10 hbn10 hxl10 ho10 hb10 hg10; have HO10 := hid ho10; have HX10 := hid hxl10; have HB10 : Hid (Below w.heap.size w w10) := (HB8.out.trans (HB9.out.mono HB8.out.size)).trans hb10; clear hbn10 hxl10 ho10 hb10 hg10))
  all_goals go_ret2
  all_goals exact ⟨⟨_, _, rfl, xs10, by have := HX10.out; have := HX8B.out; have := HTL.out; omega, HO10.out⟩, HB10.out⟩

end Go.Proofs.YtlghcldiboecoaaGreatDoor

/- The caller's own goods, and the steps that stand ahead of every script. -/
set_option linter.unusedVariables false
namespace Go.Proofs.YtlghcldiboecoaaGreatDoor
open Go.RowKit

theorem five_new (w : World) (o0 o1 o2 o3 o4 : Obj) : (((((w.alloc o0).alloc o1).alloc o2).alloc o3).alloc o4).heap[w.heap.size + 1]? = some o1 ∧ (((((w.alloc o0).alloc o1).alloc o2).alloc o3).alloc o4).heap[w.heap.size + 1 + 1]? = some o2 := by
  have s1 : (w.alloc o0).heap.size = w.heap.size + 1 := by simp
  have s2 : ((w.alloc o0).alloc o1).heap.size = w.heap.size + 1 + 1 := by simp
  have s3 : (((w.alloc o0).alloc o1).alloc o2).heap.size = w.heap.size + 1 + 1 + 1 := by simp
  have s4 : ((((w.alloc o0).alloc o1).alloc o2).alloc o3).heap.size = w.heap.size + 1 + 1 + 1 + 1 := by simp
  have h1 := heap_alloc_new (w.alloc o0) o1
  rw [s1] at h1
  have h2 := heap_alloc_new ((w.alloc o0).alloc o1) o2
  rw [s2] at h2
  have b2 := below1 ((w.alloc o0).alloc o1) o2
  have b3 := below1 (((w.alloc o0).alloc o1).alloc o2) o3
  have b4 := below1 ((((w.alloc o0).alloc o1).alloc o2).alloc o3) o4
  exact ⟨(b4.block _ (by omega)).trans ((b3.block _ (by omega)).trans ((b2.block _ (by omega)).trans h1)), (b4.block _ (by omega)).trans ((b3.block _ (by omega)).trans h2)⟩

set_option maxRecDepth 8000 in
set_option maxHeartbeats 4000000 in
theorem known_any (w : World) : Calls Tryz.prog 24 #[] w fun e w' => (∃ a c gt, e = .returned (.agg #[.slice (some ⟨a, 0, none⟩) 1 1, gt]) ∧ (∃ x n m, gt = .slice x n m) ∧ w'.heap[a]? = some (.cells #[.int .i64 0, .string ⟨#[]⟩, .slice (some ⟨c, 0, none⟩) 2 2] 113) ∧ w'.heap[c]? = some (.cells #[.int .i64 (-2), .string ⟨#[]⟩, .slice none 0 0, .int .i64 0, .string ⟨#[97, 98]⟩, .slice none 0 0] 113)) ∧ Below w.heap.size w w' := by
  go_enter Tryz.func24, Tryz.ntmps24
  go_wp2
  refine bodyPost_ret (v := .agg #[.slice (some ⟨w.heap.size + 1 + 1, 0, none⟩) 1 1, .slice (some ⟨w.heap.size + 1 + 1 + 1 + 1, 0, none⟩) 1 1]) (by simp [results, Tryz.results24, go_sem]) rfl ⟨⟨w.heap.size + 1 + 1, w.heap.size + 1, _, rfl, ⟨_, _, _, rfl⟩, ?_, ?_⟩, ?_⟩
  · exact (five_new w _ _ _ _ _).2
  · exact (five_new w _ _ _ _ _).1
  · exact (((((Below.refl w.heap.size w).alloc (by simp) _).alloc (by simp) _).alloc (by simp; omega) _).alloc (by simp; omega) _).alloc (by simp; omega) _

end Go.Proofs.YtlghcldiboecoaaGreatDoor

/- The arguments of Encodes: values and steps of whatever make. -/
set_option linter.unusedVariables false
namespace Go.Proofs.YtlghcldiboecoaaGreatDoor
open Go.ChangeShapes Go.WideShapes Go.ChangeAt Go.RowKit

theorem cells76 : Tryz.prog.cellsOf 76 = 6 := by kernel_rfl
theorem cells22 : Tryz.prog.cellsOf 22 = 1 := by kernel_rfl
theorem cells23 : Tryz.prog.cellsOf 23 = 1 := by kernel_rfl
theorem cells25 : Tryz.prog.cellsOf 25 = 2 := by kernel_rfl
theorem cells3' : Tryz.prog.cellsOf 3 = 1 := by kernel_rfl
theorem cells9' : Tryz.prog.cellsOf 9 = 1 := by kernel_rfl

instance : Inhabited (Orch.V × Value) := ⟨(.mk 0 ⟨#[]⟩ [], .slice none 0 0)⟩

theorem str_len (s : ByteArray) : s.data.toList.length = s.size := by rw [Array.length_toList]; rfl

theorem bulk_str {H : Type} (l : List UInt8) : Rows.uptoBulk (DataW.lit (H := H) (.string l)) = l.length + 1 := by simp [Rows.uptoBulk]
theorem bulk_one {H : Type} (d : DataW H) : 1 ≤ Rows.uptoBulk d := by
  cases d with
  | lit l => cases l <;> simp [Rows.uptoBulk]
  | _ => simp [Rows.uptoBulk]

theorem bulk_part {H : Type} {l : List (DataW H)} {i : Nat} (h : i < l.length) : Rows.uptoBulk l[i] ≤ Rows.uptoBulkAll l := by
  induction l generalizing i with
  | nil => simp at h
  | cons x r ih =>
    simp only [Rows.uptoBulkAll]
    cases i with
    | zero => simp
    | succ i =>
      have := ih (i := i) (by simpa using h)
      simp only [List.getElem_cons_succ]
      omega

end Go.Proofs.YtlghcldiboecoaaGreatDoor
