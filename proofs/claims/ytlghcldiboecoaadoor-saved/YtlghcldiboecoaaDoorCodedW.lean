/- The walk of Coded. -/
import Derived.Test.YtlghcldiboecoaaDoorMadeT
import Derived.Test.YtlghcldiboecoaaDoorCanonW
set_option linter.unusedVariables false
namespace Go.Proofs.YtlghcldiboecoaaDoor
open Go.RowKit

theorem made_all : ∀ r, r ≤ 8 → MdSaid r
  | 0, h => made_any 0 h (fun q hq => by omega)
  | r + 1, h => made_any (r + 1) h (fun q hq => by
      obtain rfl : q = r := by omega
      exact made_all q (by omega))

theorem Ints.up {w : World} {M M' : Nat} {v : Value} (h : Ints w M v) (hM : M ≤ M') : Ints w M' v := by
  rcases h with h | ⟨b, off, len, cap, h0, h1, h2, h3, h4⟩
  · exact .inl h
  · exact .inr ⟨b, off, len, cap, h0, h1, h2, by omega, h4⟩
theorem Strs.up {w : World} {M M' : Nat} {v : Value} (h : Strs w M v) (hM : M ≤ M') : Strs w M' v := by
  rcases h with h | ⟨b, off, len, cap, h0, h1, h2, h3, h4⟩
  · exact .inl h
  · exact .inr ⟨b, off, len, cap, h0, h1, h2, by omega, h4⟩
theorem Ints.is {w : World} {M : Nat} {v : Value} (h : Ints w M v) : ∃ a n c, v = .slice a n c := by
  rcases h with ⟨a, c, h⟩ | ⟨b, off, len, cap, h0, _⟩
  · exact ⟨_, _, _, h⟩
  · exact ⟨_, _, _, h0⟩
theorem Strs.is {w : World} {M : Nat} {v : Value} (h : Strs w M v) : ∃ a n c, v = .slice a n c := by
  rcases h with ⟨a, c, h⟩ | ⟨b, off, len, cap, h0, _⟩
  · exact ⟨_, _, _, h⟩
  · exact ⟨_, _, _, h0⟩

theorem own_bytes {w : World} {base : Nat} {ov : Value} {b : List UInt8} (h : w.ownsRow base 5 1 ov b.length (bcells b)) (h0 : 0 < b.length) : ∃ g cap, ov = .slice (some ⟨g, 0, none⟩) b.length cap ∧ b.length ≤ cap ∧ BsAt w (.slice (some ⟨g, 0, none⟩) b.length cap) b := by
  have h' := h
  rcases h.2 with ⟨rfl, h1⟩ | ⟨g, cap, cur, rfl, hb, hg, hn, _, hs, ht⟩
  · omega
  · refine ⟨g, cap, rfl, hn, g, 0, cap, rfl, hn, ltOf hg, fun i hi => ?_⟩
    have h1 := h'.cells (g := g) rfl i (.int .u8 b[i].toNat) (by simp [bcells, hi])
    rw [Addr.add_lit, Nat.zero_add] at h1
    rw [Nat.zero_add, h1]

theorem BsAt.shorter {w : World} {g n cap : Nat} {b : List UInt8} (h : BsAt w (.slice (some ⟨g, 0, none⟩) b.length cap) b) (hn : n ≤ b.length) : BsAt w (.slice (some ⟨g, 0, none⟩) n cap) (b.take n) := by
  obtain ⟨g', off, cap', e, hc, hlt, hby⟩ := h
  simp only [Value.slice.injEq, Option.some.injEq, Addr.mk.injEq] at e
  obtain ⟨⟨rfl, rfl, _⟩, _, rfl⟩ := e
  exact ⟨g, 0, cap, by rw [List.length_take, Nat.min_eq_left hn], by rw [List.length_take]; omega, hlt, hby.take n⟩

/-- What made gives to Coded. -/
def MkRes (W w' : World) (e : Ending) : Prop :=
  ∃ (A : ByteArray) (v : Orch.V) (lv : Value) (pre : List UInt8), e = .returned (.tuple #[.string A, vval v lv]) ∧ VsAt w' (fun b => W.heap.size ≤ b ∧ b < w'.heap.size) v.l lv ∧ Small 9 v ∧ Orch.encode validB A.data.toList v = .ok pre ∧ 0 < pre.length ∧ pre.length ≤ 1000

theorem made_top (W : World) (M : Nat) (N S : Value) (hM : MkAt W M N S 0 0 40 700) (hN : Ints W M N) (hS : Strs W M S) :
    Calls Tryd.prog 7 #[.pointer (some ⟨M, 0, none⟩), .int .i64 0] W fun e w' => MkRes W w' e ∧ Keeps M W.heap.size W w' := by
  have h := made_all 8 (by omega) W M N S 0 0 40 700 hM hN hS (by decide) (by decide) (by decide) (by decide) (by decide) (by decide)
  rw [show (8 : Int) - ((8 : Nat) : Int) = 0 by omega] at h
  refine h.mono ?_
  rintro e w' ⟨⟨σ, T, v, lv, pre, n', s', x', y', rfl, hvs, hsm, hrd, hly, _, hp1, hp2, hx1, hx2, hy1, _, _, _, _⟩, hk⟩
  refine ⟨⟨⟨σ.toArray⟩, v, lv, pre, rfl, hvs, hsm, Orch.encode_of hrd hly (by show σ.length ≤ 64; omega) (by omega), by omega, by omega⟩, hk⟩

theorem pre_cut {s b : List UInt8} {v : Orch.V} (h : Orch.encode validB s v = .ok b) (h0 : 0 < b.length) (c : UInt8) :
    Orch.decode validB s b = .ok v ∧ Orch.decode validB s (b.take (b.length - 1)) = .error 3 ∧ Orch.decode validB s (b ++ [c]) = .error 3 := by
  obtain ⟨r1, r2, r3⟩ := Orch.round validB s b v h
  refine ⟨r1, r2 _ (b.getLast (fun e => by rw [e] at h0; simp at h0)) ?_, r3 c⟩
  rw [← List.dropLast_eq_take]
  exact (List.dropLast_concat_getLast _).symm

set_option maxRecDepth 8000 in
set_option maxHeartbeats 4000000 in
theorem coded_walk {Tabs : World → Prop} (U : Utf validB Tabs) (w : World) (hT : Tabs w) (hL : Table w) (N S : Value) (hN : Ints w w.heap.size N) (hS : Strs w w.heap.size S) (more : Int) (hm0 : -9223372036854775808 ≤ more) (hm1 : more ≤ 9223372036854775807) :
    Calls Tryd.prog 3 #[.agg #[N, S], .int .i64 more] w fun e w' => e = .returned (.bool true) ∧ Below w.heap.size w w' := by
  have HTb : Hid (∀ W, Below w.heap.size w W → Tabs W) := fun W h => U.kept (U.size hT) h hT
  have HLb : Hid (∀ W, Below w.heap.size w W → Table W) := fun W h => hL.below h hL.pos
  obtain ⟨na, nn, nc, rfl⟩ := hN.is
  obtain ⟨sa, sn, sc, rfl⟩ := hS.is
  obtain ⟨n0, n1⟩ := new2 w (.cells #[.slice na nn nc, .slice sa sn sc] 25) (.cells #[.slice na nn nc, .slice sa sn sc, .int .i64 0, .int .i64 0, .int .i64 40, .int .i64 700] 28)
  have hb0 := below2 w (.cells #[.slice na nn nc, .slice sa sn sc] 25) (.cells #[.slice na nn nc, .slice sa sn sc, .int .i64 0, .int .i64 0, .int .i64 40, .int .i64 700] 28)
  have hmd := made_top _ (w.heap.size + 1) (.slice na nn nc) (.slice sa sn sc) n1 ((hN.keeps (M := w.heap.size) (Keeps.of hb0) (Nat.le_refl _)).up (Nat.le_succ _)) ((hS.keeps (M := w.heap.size) (Keeps.of hb0) (Nat.le_refl _)).up (Nat.le_succ _))
  have HMD := hide hmd
  have HB0 := hide hb0
  clear n0 n1 hmd hb0 hN hS hT hL
  go_enter Tryd.func3, Tryd.ntmps3
  go_wp2_with fail
  have hs0 : ((w.alloc (.cells #[.slice na nn nc, .slice sa sn sc] 25)).alloc (.cells #[.slice na nn nc, .slice sa sn sc, .int .i64 0, .int .i64 0, .int .i64 40, .int .i64 700] 28)).heap.size = w.heap.size + 2 := by simp
  generalize (w.alloc (.cells #[.slice na nn nc, .slice sa sn sc] 25)).alloc (.cells #[.slice na nn nc, .slice sa sn sc, .int .i64 0, .int .i64 0, .int .i64 40, .int .i64 700] 28) = W0 at *
  refine HMD.out.mono ?_
  rintro e w1 ⟨⟨A, v, lv, pre, rfl, hvs, hsm, henc, hp0, hp1⟩, hk1⟩
  obtain ⟨va, vc, rfl⟩ := hvs.shape
  have HB1 : Hid (Below w.heap.size w w1) := HB0.out.trans ((hk1.below (by omega)).mono (by omega))
  have hvs1 : VsAt w1 (fun b => b < w1.heap.size) v.l (.slice va v.l.length vc) := hvs.congr (fun b hb => hb.2) (fun _ _ => rfl)
  have HENC := hide henc
  have HSM := hide hsm
  have HVS1 := hide hvs1
  clear hvs hvs1 hsm henc hk1 HMD HB0 hs0
  have HE : Hid (∀ W, Below w1.heap.size w1 W → Calls Tryd.prog 8 #[.string A, vval v (.slice va v.l.length vc)] W fun e w' => (∃ ov, e = .returned (.tuple #[ov, .int .i64 0]) ∧ w'.ownsRow W.heap.size 5 1 ov pre.length (bcells pre)) ∧ Below W.heap.size W w') := fun W hbW => by
    have hbw : Below w.heap.size w W := HB1.out.trans (hbW.mono HB1.out.size)
    have := encode_any U W (HTb.out W hbw) (HLb.out W hbw) A v (fun b => b < w1.heap.size) _ (HVS1.out.congr (fun _ h => h) (fun b h => hbW.block b h)) (fun b h => Nat.lt_of_lt_of_le h hbW.size)
    rw [HENC.out] at this
    exact this
  go_wp2_with fail
  refine (HE.out _ (below1 _ _)).mono ?_
  rintro e w2 ⟨⟨ov, rfl, ho⟩, hb2⟩
  obtain ⟨g, cap, rfl, hcap, hbs⟩ := own_bytes ho hp0
  have hn1 := heap_alloc_new w1 (.cells #[.int .i64 v.n, .string v.s, .slice va v.l.length vc] 31)
  have hsz1 : (w1.alloc (.cells #[.int .i64 v.n, .string v.s, .slice va v.l.length vc] 31)).heap.size = w1.heap.size + 1 := by simp
  have HB12 : Hid (Below w1.heap.size w1 w2) := (below1 _ _).trans (hb2.mono (by rw [hsz1]; omega))
  have HB2 : Hid (Below w.heap.size w w2) := HB1.out.trans (HB12.out.mono HB1.out.size)
  have hC2 : w2.heap[w1.heap.size]? = some (.cells #[.int .i64 v.n, .string v.s, .slice va v.l.length vc] 31) := (hb2.block _ (by rw [hsz1]; omega)).trans hn1
  rw [hsz1] at ho
  have HO2 := hide ho
  have HBS2 := hide hbs
  have HC2 := hide hC2
  have hG1 : Hid (w.heap.size ≤ w1.heap.size) := HB1.out.size
  have hG2 : Hid (w1.heap.size + 1 ≤ w2.heap.size) := by show _ ≤ _; have := hb2.size; rw [hsz1] at this; exact this
  clear ho hbs hC2 hb2 hn1 hsz1 HE
  have hpz : ¬ ((pre.length : Int) = 0) := by omega
  have hpp : (1 : Int) ≤ (pre.length : Int) := by omega
  have hD1 := hide (pre_cut HENC.out hp0 0)
  -- the first Decode
  have HD : Hid (∀ W bv l r, Below w.heap.size w W → BsAt W bv l → l.length ≤ 1001 → Orch.decode validB A.data.toList l = r → Calls Tryd.prog 9 #[.string A, bv] W fun e w' => dRes W w' e r ∧ Below W.heap.size W w') := fun W bv l r hb hbs hl hr => by
    have := decode_any U W (HTb.out W hb) (HLb.out W hb) A bv l (by omega) hbs
    rw [hr] at this
    exact this
  go_wp2_with fail
  refine (HD.out _ _ pre _ HB2.out HBS2.out (by omega) hD1.out.1).mono ?_
  rintro e w3 ⟨⟨lx, he, hvx⟩, hb3⟩
  subst he
  obtain ⟨xa, xc, rfl⟩ := hvx.shape
  have hsz3 : (w3.alloc (.cells #[.int .i64 v.n, .string v.s, .slice xa v.l.length xc] 31)).heap.size = w3.heap.size + 1 := by simp
  have h23 := hb3.size
  have HB3 : Hid (Below w.heap.size w w3) := HB2.out.trans (hb3.mono HB2.out.size)
  -- the world behind it
  have hC3 : w3.heap[w1.heap.size]? = some (.cells #[.int .i64 v.n, .string v.s, .slice va v.l.length vc] 31) := (hb3.block _ (ltOf HC2.out)).trans HC2.out
  have hbA := below1 w3 (.cells #[.int .i64 v.n, .string v.s, .slice xa v.l.length xc] 31)
  have hb24 : Below w2.heap.size w2 (w3.alloc (.cells #[.int .i64 v.n, .string v.s, .slice xa v.l.length xc] 31)) := hb3.trans (hbA.mono h23)
  have HB4 : Hid (Below w.heap.size w (w3.alloc (.cells #[.int .i64 v.n, .string v.s, .slice xa v.l.length xc] 31))) := HB3.out.alloc HB3.out.size _
  have hv4 : (w3.alloc (.cells #[.int .i64 v.n, .string v.s, .slice xa v.l.length xc] 31)).heap[w1.heap.size]? = some (.cells #[.int .i64 v.n, .string v.s, .slice va v.l.length vc] 31) := (hbA.block _ (ltOf hC3)).trans hC3
  have a0 := cellOf (j := 0) hv4 rfl
  have a1 := cellOf (j := 1) hv4 rfl
  have a2 := cellOf (j := 2) hv4 rfl
  have HO4 := hide (ownsRow_below HO2.out hb24)
  have HBS4 := hide (HBS2.out.below hb24 (Nat.le_refl _))
  have hSame := same_any 9 v HSM.out (w3.alloc (.cells #[.int .i64 v.n, .string v.s, .slice xa v.l.length xc] 31)) (fun b => b < w3.heap.size) (fun b => b < w1.heap.size) (.slice xa v.l.length xc) (.slice va v.l.length vc)
    (hvx.congr (fun b hb => hb.2) (fun b hb => hbA.block b hb.2))
    (HVS1.out.congr (fun _ h => h) (fun b hb => (hb24.block b (by have := hG2.out; omega)).trans (HB12.out.block b hb)))
    (fun b hb => by rw [hsz3]; omega) (fun b hb => by rw [hsz3]; have := hG2.out; omega)
  have HSAME := hide hSame
  have hG4 : Hid (w1.heap.size + 1 ≤ (w3.alloc (.cells #[.int .i64 v.n, .string v.s, .slice xa v.l.length xc] 31)).heap.size) := by show _ ≤ _; rw [hsz3]; have := hG2.out; omega
  clear hC3 hbA hb24 hv4 hSame hvx hb3 h23 hsz3 HB3 HB2 HB12 HVS1 HSM HC2 HBS2 HO2 hG2 hpz
  go_wp2_with fail
  refine HSAME.out.mono ?_
  rintro e w5 ⟨rfl, hb5⟩
  have HB5 : Hid (Below w.heap.size w w5) := HB4.out.trans (hb5.mono HB4.out.size)
  have HO5 := hide (ownsRow_below HO4.out hb5)
  have HBS5 := hide (HBS4.out.below hb5 (Nat.le_refl _))
  have HS5 : Hid (w1.heap.size + 1 ≤ w5.heap.size) := Nat.le_trans hG4.out hb5.size
  clear hb5 HSAME a0 a1 a2 HB4 HO4 HBS4 hG4
  generalize w1.heap.size = G1 at *
  go_wp2_with fail
  have hpre1 : ∃ m, pre.length = m + 1 := ⟨pre.length - 1, by omega⟩
  refine (HD.out _ _ (pre.take (pre.length - 1)) _ HB5.out (HBS5.out.shorter (by omega)) (by rw [List.length_take]; omega) hD1.out.2.1).mono ?_
  rintro e w6 ⟨he, hb6⟩
  have he' : e = .returned (.tuple #[vv 0 ⟨#[]⟩ (.slice none 0 0), .int .i64 3]) := he
  subst he'
  have hbA := below1 w6 (.cells #[.int .i64 0, .string ⟨#[]⟩, .slice none 0 0] 31)
  have hb67 : Below w5.heap.size w5 (w6.alloc (.cells #[.int .i64 0, .string ⟨#[]⟩, .slice none 0 0] 31)) := hb6.trans (hbA.mono hb6.size)
  have HB7 : Hid (Below w.heap.size w (w6.alloc (.cells #[.int .i64 0, .string ⟨#[]⟩, .slice none 0 0] 31))) := HB5.out.trans (hb67.mono HB5.out.size)
  have HO7 := hide (ownsRow_below HO5.out hb67)
  have HS7 : Hid (G1 + 1 ≤ (w6.alloc (.cells #[.int .i64 0, .string ⟨#[]⟩, .slice none 0 0] 31)).heap.size) := Nat.le_trans HS5.out hb67.size
  clear hbA hb67 hb6 he HB5 HO5 HBS5 HS5
  go_wp2_with fail
  generalize w6.alloc (.cells #[.int .i64 0, .string ⟨#[]⟩, .slice none 0 0] 31) = w7 at *
  refine (pick_any w7 more 256 hm0 hm1 (by omega) (by omega)).mono ?_
  rintro e w7' ⟨⟨z, hz, rfl⟩, rfl⟩
  obtain ⟨i0, hi0, hz0, hz1, hz2⟩ := info_parts Tryd.info5
  have hzz : (z : Int) < 256 := by omega
  go_wp2_with (at_builtin; refine wpList_append_own _ rfl _ _ 34 rfl (G1 + 1) 5 i0 (.int .u8 0) 1 1 Tryd.underlying34 hi0 hz0 hz1 hz2 rfl (by decide) _ _ _ rfl (HO7.out.alloc _) ⟨w7'.heap.size, 0, none⟩ 1 1 [_] rfl rfl (cell_one_new _ _ _) ?c2 ?c3 ?c4 ?c5 ?_)
  case c2 => intro u hu; simp at hu; subst hu; rfl
  case c3 => unfold maxLen; omega
  case c4 => omega
  case c5 => have := HS7.out; simp; omega
  intro v' w8 hown' hgrow _
  have hs7 : (w7'.alloc (.cells #[.int .u8 z] 5)).heap.size = w7'.heap.size + 1 := by simp
  have HB8 : Hid (Below w.heap.size w w8) := (HB7.out.alloc HB7.out.size _).grown hgrow (by have := HB7.out.size; rw [hs7]; omega) (fun k hk => by have := (HO7.out.lt k hk).1; have := hG1.out; omega)
  have hc : (z : Int) = ((UInt8.ofNat z).toNat : Int) := by rw [show (UInt8.ofNat z).toNat = z by simp; omega]
  have ho8 : w8.ownsRow (G1 + 1) 5 1 v' (pre ++ [UInt8.ofNat z]).length (bcells (pre ++ [UInt8.ofNat z])) := by
    rw [hc] at hown'
    rw [List.length_append, bcells_append]
    exact hown'
  have hlen8 : (pre ++ [UInt8.ofNat z]).length = pre.length + 1 := by simp
  obtain ⟨g8, cap8, hv8, hcap8, hbs8⟩ := own_bytes ho8 (by rw [List.length_append]; omega)
  have hd8 := HD.out _ _ _ _ HB8.out hbs8 (by rw [List.length_append]; simp; omega) (pre_cut HENC.out hp0 (UInt8.ofNat z)).2.2
  rw [hlen8] at hv8 hd8
  subst hv8
  have HD8 := hide hd8
  clear hown' hgrow ho8 hbs8 hs7 HB7 HO7 HS7 hi0 hz0 hz1 hz2 hc hd8 hlen8 hcap8
  go_wp2_with fail
  refine HD8.out.mono ?_
  rintro e w9 ⟨he, hb9⟩
  have he' : e = .returned (.tuple #[vv 0 ⟨#[]⟩ (.slice none 0 0), .int .i64 3]) := he
  subst he'
  have HB9 : Hid (Below w.heap.size w w9) := HB8.out.trans (hb9.mono HB8.out.size)
  clear he hb9 HD8 HB8 HD hD1 HENC
  go_wp2
  go_ret
  exact ⟨rfl, HB9.out.alloc HB9.out.size _⟩
end Go.Proofs.YtlghcldiboecoaaDoor
