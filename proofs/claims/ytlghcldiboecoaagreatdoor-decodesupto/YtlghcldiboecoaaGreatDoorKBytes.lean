/- The caller's books: whole. -/
import Derived.Test.YtlghcldiboecoaaGreatDoorKPick
import Derived.Deep.RegionLaw
set_option linter.unusedVariables false
namespace Go.Proofs.YtlghcldiboecoaaGreatDoor
open Go.RowKit

/-- A list of bytes that reads as the caller has written it, in blocks below B. -/
def MkAt (w : World) (B n : Nat) (v : Value) : Prop :=
  ∃ la ln lc, v = .slice la ln lc ∧ ln ≤ 9223372036854775806 ∧ ln ≤ lc ∧ ∀ i, i < ln → ∃ g, la = some ⟨g, 0, none⟩ ∧ g < B ∧ w.cell? ⟨g, i, none⟩ = some (.int .u8 (mark n i).toNat)

theorem MkAt.below {w w' : World} {B n : Nat} {v : Value} (h : MkAt w B n v) (hb : Below B w w') : MkAt w' B n v := by
  obtain ⟨la, ln, lc, hv, h1, h2, h3⟩ := h
  refine ⟨la, ln, lc, hv, h1, h2, fun i hi => ?_⟩
  obtain ⟨g, hg, hB, hc⟩ := h3 i hi
  exact ⟨g, hg, hB, (hb.cell (p := ⟨g, i, none⟩) hB).trans hc⟩

theorem MkAt.calls {w : World} {B n : Nat} {v : Value} (h : MkAt w B n v) (hn : n ≤ 9223372036854775807) (hB : B ≤ w.heap.size) : Calls Tryz.prog 56 #[v, .int .i64 n] w fun e w' => e = .returned (.bool true) ∧ Below w.heap.size w w' := by
  obtain ⟨la, ln, lc, rfl, h1, h2, h3⟩ := h
  exact marked_any w la ln lc n hn h1 h2 (fun i hi => by
    obtain ⟨g, hg, hgB, hc⟩ := h3 i hi
    exact ⟨g, hg, Nat.lt_of_lt_of_le hgB hB, hc⟩)

set_option maxRecDepth 8000 in
set_option maxHeartbeats 4000000 in
theorem whole_any (w : World) (K o : Nat) (ba : Option Addr) (N bc : Nat) (hK : K < w.heap.size) (hN : N ≤ 140737488355328)
    (k0 : w.cell? ⟨K, o, none⟩ = some (.slice ba N bc)) (k1 : w.cell? ⟨K, o + 1, none⟩ = some (.slice none 0 0)) (k2 : w.cell? ⟨K, o + 2, none⟩ = some (.slice none 0 0)) (k3 : w.cell? ⟨K, o + 3, none⟩ = some (.slice none 0 0))
    (HE : Hid (∀ i, i < N → ∃ g l a b c, ba = some ⟨g, 0, none⟩ ∧ g < w.heap.size ∧ N ≤ bc ∧ w.cell? ⟨g, i * 5, none⟩ = some l ∧ w.cell? ⟨g, i * 5 + 1, none⟩ = some a ∧ w.cell? ⟨g, i * 5 + 2, none⟩ = some b ∧ w.cell? ⟨g, i * 5 + 3, none⟩ = some c ∧ w.cell? ⟨g, i * 5 + 4, none⟩ = some (.int .i64 i) ∧ MkAt w w.heap.size i l ∧ MkAt w w.heap.size i a ∧ MkAt w w.heap.size i b ∧ MkAt w w.heap.size i c)) :
    Calls Tryz.prog 27 #[.pointer (some ⟨K, o, none⟩)] w fun e w' => e = .returned (.bool true) ∧ Below w.heap.size w w' := by
  have HK : Hid (∀ W, Below w.heap.size w W → W.cell? ⟨K, o, none⟩ = some (.slice ba N bc) ∧ W.cell? ⟨K, o + 1, none⟩ = some (.slice none 0 0) ∧ W.cell? ⟨K, o + 2, none⟩ = some (.slice none 0 0) ∧ W.cell? ⟨K, o + 3, none⟩ = some (.slice none 0 0)) := fun W hb =>
    ⟨(hb.cell (p := ⟨K, o, none⟩) hK).trans k0, (hb.cell (p := ⟨K, o + 1, none⟩) hK).trans k1, (hb.cell (p := ⟨K, o + 2, none⟩) hK).trans k2, (hb.cell (p := ⟨K, o + 3, none⟩) hK).trans k3⟩
  clear k0 k1 k2 k3
  go_enter Tryz.func27, Tryz.ntmps27
  go_wp2
  go_loopw [3, 4] (fun b k wr => ∃ i : Nat, b = .bool true ∧ k = .int .i64 i ∧ i ≤ N ∧ Hid (Below w.heap.size w wr)) (fun _ k _ => N - (intOf k).toNat)
  case atStart => exact ⟨0, rfl, rfl, Nat.zero_le _, Below.refl _ _⟩
  case round =>
    obtain ⟨i, rfl, rfl, hi, HB⟩ := hrel
    obtain ⟨k0, k1, k2, k3⟩ := HK.out wr HB.out
    by_cases hlt : i < N
    · have hltz : (i : Int) < (N : Int) := by omega
      obtain ⟨g, l, a, b, c, hba, hg, hbc, e0, e1, e2, e3, e4, ml, ma, mb, mc⟩ := HE.out i hlt
      subst hba
      have f0 := (HB.out.cell (p := ⟨g, i * 5, none⟩) hg).trans e0
      have f1 := (HB.out.cell (p := ⟨g, i * 5 + 1, none⟩) hg).trans e1
      have f2 := (HB.out.cell (p := ⟨g, i * 5 + 2, none⟩) hg).trans e2
      have f3 := (HB.out.cell (p := ⟨g, i * 5 + 3, none⟩) hg).trans e3
      have f4 := (HB.out.cell (p := ⟨g, i * 5 + 4, none⟩) hg).trans e4
      clear e0 e1 e2 e3 e4 k1 k2 k3
      have ol : l.oneCell' = true := by obtain ⟨_, _, _, rfl, _⟩ := ml; rfl
      have HL : Hid (∀ W, Below w.heap.size w W → Calls Tryz.prog 56 #[l, .int .i64 i] W fun e w' => e = .returned (.bool true) ∧ Below W.heap.size W w') := fun W hb => (ml.below hb).calls (by omega) hb.size
      have HA : Hid (∀ W, Below w.heap.size w W → Calls Tryz.prog 56 #[a, .int .i64 i] W fun e w' => e = .returned (.bool true) ∧ Below W.heap.size W w') := fun W hb => (ma.below hb).calls (by omega) hb.size
      have HBB : Hid (∀ W, Below w.heap.size w W → Calls Tryz.prog 56 #[b, .int .i64 i] W fun e w' => e = .returned (.bool true) ∧ Below W.heap.size W w') := fun W hb => (mb.below hb).calls (by omega) hb.size
      have HCC : Hid (∀ W, Below w.heap.size w W → Calls Tryz.prog 56 #[c, .int .i64 i] W fun e w' => e = .returned (.bool true) ∧ Below W.heap.size W w') := fun W hb => (mc.below hb).calls (by omega) hb.size
      obtain ⟨l1, l2, l3, rfl, _⟩ := ml
      obtain ⟨a1, a2, a3, rfl, _⟩ := ma
      obtain ⟨b1, b2, b3, rfl, _⟩ := mb
      obtain ⟨c1, c2, c3, rfl, _⟩ := mc
      have HX := hid (heap_alloc_new wr (.cells #[.slice l1 l2 l3, .slice a1 a2 a3, .slice b1 b2 b3, .slice c1 c2 c3, .int .i64 i] 120))
      have HW : Hid (Below w.heap.size w (wr.alloc (.cells #[.slice l1 l2 l3, .slice a1 a2 a3, .slice b1 b2 b3, .slice c1 c2 c3, .int .i64 i] 120))) := HB.out.alloc HB.out.size _
      have x0 := cellOf (j := 0) HX.out rfl
      have x4 := cellOf (j := 4) HX.out rfl
      go_wp2_with (go_at_call 56; first
        | (refine (HL.out _ HW.out).mono ?_; rintro e w1 ⟨rfl, hb⟩; have HX1 : Hid (w1.heap[wr.heap.size]? = _) := (hb.block _ (ltOf HX.out)).trans HX.out; have HW1 : Hid (Below w.heap.size w w1) := HW.out.trans (hb.mono HW.out.size); clear hb HX HW x0 x4; have y0 := cellOf (j := 1) HX1.out rfl; have y4 := cellOf (j := 4) HX1.out rfl)
        | (refine (HA.out _ HW1.out).mono ?_; rintro e w2 ⟨rfl, hb⟩; have HX2 : Hid (w2.heap[wr.heap.size]? = _) := (hb.block _ (ltOf HX1.out)).trans HX1.out; have HW2 : Hid (Below w.heap.size w w2) := HW1.out.trans (hb.mono HW1.out.size); clear hb HX1 HW1 y0 y4; have z0 := cellOf (j := 2) HX2.out rfl; have z4 := cellOf (j := 4) HX2.out rfl)
        | (refine (HBB.out _ HW2.out).mono ?_; rintro e w3 ⟨rfl, hb⟩; have HX3 : Hid (w3.heap[wr.heap.size]? = _) := (hb.block _ (ltOf HX2.out)).trans HX2.out; have HW3 : Hid (Below w.heap.size w w3) := HW2.out.trans (hb.mono HW2.out.size); clear hb HX2 HW2 z0 z4; have u0 := cellOf (j := 3) HX3.out rfl; have u4 := cellOf (j := 4) HX3.out rfl)
        | (refine (HCC.out _ HW3.out).mono ?_; rintro e w4 ⟨rfl, hb⟩; have HW4 : Hid (Below w.heap.size w w4) := HW3.out.trans (hb.mono HW3.out.size); clear hb HX3 HW3 u0 u4))
      all_goals go_roundw
      all_goals try (case rel => exact ⟨i + 1, rfl, by go_num, by omega, HW4⟩)
      all_goals try (case measure => simp [intOf]; omega)
    · have hltz : ¬ (i : Int) < (N : Int) := by omega
      go_wp2
      refine wp_loop_rounds 1 ?_
      rw [rounds_succ]
      go_wp2
      refine wp_loop_rounds 1 ?_
      rw [rounds_succ]
      go_wp2
      refine wp_loop_rounds 1 ?_
      rw [rounds_succ]
      go_wp2
      all_goals go_ret
      all_goals exact ⟨rfl, HB.out⟩
end Go.Proofs.YtlghcldiboecoaaGreatDoor

/- An append onto a row that is owned: the old list stays a row; where the new one lies. -/
set_option linter.unusedVariables false
namespace Go.Proofs.YtlghcldiboecoaaGreatDoor
open Go.RowKit

/-- The beginning of a row is a row. -/
theorem own_prefix {w : World} {base : Nat} {e : TypeId} {size g n m cap : Nat} {xs news : List Value} (h : w.ownsRow base e size (.slice (some ⟨g, 0, none⟩) (n + m) cap) (n + m) (xs ++ news)) (hx : xs.length = n * size) :
    w.ownsRow base e size (.slice (some ⟨g, 0, none⟩) n cap) n xs := by
  rcases h.2 with ⟨h0, _⟩ | ⟨g', cap', cur, hv, hbg, hg, hnc, hcm, hcs, htake⟩
  · cases h0
  · cases hv
    refine ⟨hx, .inr ⟨g, cap, cur, rfl, hbg, hg, by omega, hcm, hcs, ?_⟩⟩
    have h1 := congrArg (List.take (n * size)) htake
    rw [← hx, List.take_left, hx, List.take_take, Nat.min_eq_left (Nat.mul_le_mul_right _ (by omega))] at h1
    exact h1

section
variable {P : Program} (w : World)

/-- What an append of something leaves. -/
def AppRes (w w' : World) (base : Nat) (e : TypeId) (size : Nat) (v v' : Value) (n m : Nat) (xs news : List Value) : Prop :=
  w'.ownsRow base e size v' (n + m) (xs ++ news) ∧ w'.ownsRow base e size v n xs ∧ ((v'.ownBlock = v.ownBlock ∧ w.grownBy w' v.ownBlock) ∨ (v'.ownBlock = some w.heap.size ∧ Below w.heap.size w w'))

theorem run_append_keep (base : Nat) (t ty e : TypeId) (i : TypeInfo) (z : Value) (size bytes : Nat) (ht : P.underlying t = some (.slice e)) (hi : P.info? e = some i) (hz : i.zero = some z)
    (hsize : i.size = size) (hby : i.bytes = bytes) (hzs : z.cells.size = size) (hsz : 0 < size)
    (v : Value) (n : Nat) (xs : List Value) (hown : w.ownsRow base e size v n xs)
    (a : Addr) (m c : Nat) (news : List Value) (hl : news.length = m * size) (hnews : ∀ j u, news[j]? = some u → w.cell? (a.add j) = some u) (h1 : ∀ u ∈ news, u.oneCell' = true)
    (hm : 0 < m) (h63 : n + m ≤ maxLen) (hbytes : (n + m) * bytes ≤ 140737488355328) (hbase : base ≤ w.heap.size) :
    ∃ v' w', (Builtin.append_ #[t, t] ty #[v, .slice (some a) m c]).run P w = .ok v' w' ∧ AppRes w w' base e size v v' n m xs news := by
  obtain ⟨v', w', hr1, ho, _⟩ := run_append_own_at (P := P) w base t ty e i z size bytes ht hi hz hsize hby hzs hsz v n xs hown a m c news hl hnews h1 h63 hbytes hbase
  subst hsize
  subst hby
  have hsmall : n + m ≤ 9223372036854775807 := by simp only [maxLen] at h63; omega
  have fresh : ∀ ob, Below w.heap.size w (w.drew.alloc ob) := fun ob => (below_drew w).trans (below1 w.drew ob)
  rcases hown.2 with ⟨rfl, rfl⟩ | ⟨g, cap, _, rfl, _⟩
  · have hx : xs = [] := List.eq_nil_of_length_eq_zero (by simpa using hown.1)
    subst hx
    have hr := run_append_nil (P := P) w t ty e i z ht hi hz a m c news hl hnews (by omega) (by omega) (by rw [Nat.zero_add] at hbytes; omega)
    rw [hr] at hr1
    cases hr1
    exact ⟨_, _, hr, ho, World.ownsRow_nil _ _ _ _, .inr ⟨rfl, fresh _⟩⟩
  · by_cases hroom : n + m ≤ cap
    · obtain ⟨w2, hr, h2, h3⟩ := run_append_fits (P := P) w base t ty e i i.size ht hi rfl g n cap xs hown a m c news hl hnews h1 hroom
      exact ⟨_, w2, hr, h2, own_prefix h2 hown.1, .inl ⟨rfl, h3⟩⟩
    · have hr := run_append_grow (P := P) w t ty e i z ht hi hz ⟨g, 0, none⟩ n cap xs hown.1 (hown.cells (g := g) rfl) a m c news hl hnews (by omega) (by omega) (growslice_fits (by omega) hbytes)
      rw [hr] at hr1
      cases hr1
      exact ⟨_, _, hr, ho, hown.drew.alloc _, .inr ⟨rfl, fresh _⟩⟩

theorem wpList_append_keep {ops : Array Oper} {rest : List Oper} {o : Oper} {a : Act} {Q : Exit → Act → World → Prop} (hgd : o.guard = none) (s x : Operand) (t : TypeId)
    (ho : o.op = .call { callee := .builtin .append, args := #[s, x], argTypes := #[t, t] })
    (base : Nat) (e : TypeId) (i : TypeInfo) (z : Value) (size bytes : Nat) (ht : P.underlying t = some (.slice e)) (hi : P.info? e = some i) (hz : i.zero = some z)
    (hsize : i.size = size) (hby : i.bytes = bytes) (hzs : z.cells.size = size) (hsz : 0 < size)
    (v : Value) (n : Nat) (xs : List Value) (hs : a.eval s = v) (hown : w.ownsRow base e size v n xs)
    (ad : Addr) (m c : Nat) (news : List Value) (hx : a.eval x = .slice (some ad) m c) (hl : news.length = m * size) (hnews : ∀ j u, news[j]? = some u → w.cell? (ad.add j) = some u) (h1 : ∀ u ∈ news, u.oneCell' = true)
    (hm : 0 < m) (h63 : n + m ≤ maxLen) (hbytes : (n + m) * bytes ≤ 140737488355328) (hbase : base ≤ w.heap.size)
    (h : ∀ v' w', AppRes w w' base e size v v' n m xs news → wpList P ops Q rest (a.put o.dst v') w') :
    wpList P ops Q (o :: rest) a w := by
  refine wpList_plain hgd fun K hK => ?_
  obtain ⟨v', w', hr, h2⟩ := run_append_keep (P := P) w base t o.type e i z size bytes ht hi hz hsize hby hzs hsz v n xs hown ad m c news hl hnews h1 hm h63 hbytes hbase
  unfold Oper.wp execOp
  simp only [ho, resolve, invoke, builtin, Sem.run_bind, Sem.run_pure, Result.andThen_ok, List.map_toArray, List.map_cons, List.map_nil, hs, hx, hr]
  exact hK _ _ (h v' w' h2)
end

/-- The first k marks of the n-th list. -/
def marks (n k : Nat) : List Value := (List.range k).map fun i => .int .u8 (mark n i).toNat

theorem marks_len (n k : Nat) : (marks n k).length = k := by simp [marks]
theorem marks_get {n k i : Nat} (h : i < k) : (marks n k)[i]? = some (.int .u8 (mark n i).toNat) := by simp [marks, h]
theorem marks_add (n k m : Nat) : marks n (k + m) = marks n k ++ (List.range m).map (fun i => Value.int .u8 (mark n (k + i)).toNat) := by
  simp [marks, List.range_add, Function.comp_def]

/-- An owned row of marks reads as written. -/
theorem mk_of_own {w : World} {base n k : Nat} {v : Value} (h : w.ownsRow base 5 1 v k (marks n k)) (hk : k ≤ 9223372036854775806) : MkAt w w.heap.size n v := by
  rcases h.2 with ⟨rfl, rfl⟩ | ⟨g, cap, cur, rfl, hbg, hg, hnc, _⟩
  · exact ⟨none, 0, 0, rfl, by omega, by omega, fun i hi => by omega⟩
  · refine ⟨_, k, cap, rfl, hk, hnc, fun i hi => ⟨g, rfl, ltOf hg, ?_⟩⟩
    have := h.cells rfl i _ (marks_get hi)
    rw [Addr.add_lit, Nat.zero_add] at this
    exact this

/-- Another list of the same marks, behind an append. -/
theorem mk_after {w w' : World} {base n k m : Nat} {v v' u : Value} (hu : MkAt w w.heap.size n u) (hul : ∀ la ln lc, u = .slice la ln lc → ln ≤ k + m) (h : AppRes w w' base 5 1 v v' k m (marks n k) ((List.range m).map (fun i => Value.int .u8 (mark n (k + i)).toNat))) : MkAt w' w'.heap.size n u := by
  obtain ⟨la, ln, lc, rfl, h1, h2, h3⟩ := hu
  have hle := hul la ln lc rfl
  obtain ⟨ho, _, hcase⟩ := h
  rw [← marks_add] at ho
  refine ⟨la, ln, lc, rfl, h1, h2, fun i hi => ?_⟩
  obtain ⟨g, hg, hgB, hc⟩ := h3 i hi
  rcases hcase with ⟨he, hgr⟩ | ⟨_, hb⟩
  · by_cases hgv : v.ownBlock = some g
    · have hgv' : v'.ownBlock = some g := he.trans hgv
      refine ⟨g, hg, (ho.lt g hgv').2, ?_⟩
      have := ho.cells hgv' i _ (marks_get (show i < k + m by omega))
      rw [Addr.add_lit, Nat.zero_add] at this
      exact this
    · refine ⟨g, hg, Nat.lt_of_lt_of_le hgB hgr.size, ?_⟩
      rw [← hc]
      unfold World.cell?
      rw [hgr.block g hgB (fun e => hgv e.symm)]
  · exact ⟨g, hg, Nat.lt_of_lt_of_le hgB hb.size, (hb.cell (p := ⟨g, i, none⟩) hgB).trans hc⟩

/-- One mark more. -/
theorem set_marks {n i : Nat} {xs : List Value} (hi : i < xs.length) : (marks n i ++ xs.drop i).set i (.int .u8 (mark n i).toNat) = marks n (i + 1) ++ xs.drop (i + 1) := by
  rw [List.set_append_right _ _ (by rw [marks_len]; omega), marks_len, Nat.sub_self, List.drop_eq_getElem_cons hi, List.set_cons_zero, marks_add]
  simp
end Go.Proofs.YtlghcldiboecoaaGreatDoor

/- The caller's books: a list of bytes is kept. -/
set_option linter.unusedVariables false
namespace Go.Proofs.YtlghcldiboecoaaGreatDoor
open Go.RowKit

/-- A list of at most k bytes that reads as marked. -/
def MkLe (W : World) (N k : Nat) (v : Value) : Prop := MkAt W W.heap.size N v ∧ ∀ la ln lc, v = .slice la ln lc → ln ≤ k

/-- What keepBytes carries along. -/
structure Kp (w W : World) (C X k N : Nat) (l a b c : Value) : Prop where
  low : Below C w W
  blk : W.heap[X]? = some (.cells #[l, a, b, c, .int .i64 N] 120)
  row : W.ownsRow C 5 1 l k (marks N k)
  ma : MkLe W N (k + 1) a
  mb : MkLe W N (k + 2) b
  mc : MkLe W N (k + 3) c
  ne : l.ownBlock ≠ some X
  hC : C ≤ w.heap.size

theorem MkLe.nil (W : World) (N k : Nat) : MkLe W N k (.slice none 0 0) := ⟨⟨none, 0, 0, rfl, by omega, by omega, fun i hi => by omega⟩, fun la ln lc h => by cases h; omega⟩

theorem MkLe.below {W W' : World} {N k : Nat} {v : Value} (h : MkLe W N k v) (hb : Below W.heap.size W W') : MkLe W' N k v := by
  refine ⟨?_, h.2⟩
  obtain ⟨la, ln, lc, hv, h1, h2, h3⟩ := h.1
  refine ⟨la, ln, lc, hv, h1, h2, fun i hi => ?_⟩
  obtain ⟨g, hg, hB, hc⟩ := h3 i hi
  exact ⟨g, hg, Nat.lt_of_lt_of_le hB hb.size, (hb.cell (p := ⟨g, i, none⟩) hB).trans hc⟩

theorem Kp.after {w W W' : World} {C X k N : Nat} {l a b c : Value} (h : Kp w W C X k N l a b c) (hb : Below W.heap.size W W') : Kp w W' C X k N l a b c :=
  ⟨h.low.trans (hb.mono (Nat.le_trans h.hC h.low.size)), (hb.block _ (ltOf h.blk)).trans h.blk, ownsRow_below h.row hb, h.ma.below hb, h.mb.below hb, h.mc.below hb, h.ne, h.hC⟩

/-- The marks that an append adds. -/
abbrev more (N k m : Nat) : List Value := (List.range m).map (fun i => Value.int .u8 (mark N (k + i)).toNat)

theorem Kp.append {w W W' : World} {C X k N m : Nat} {l a b c v' : Value} (h : Kp w W C X k N l a b c) (hr : AppRes W W' C 5 1 l v' k m (marks N k) (more N k m)) (hk : k + m ≤ 9223372036854775806)
    (h1 : ∀ la ln lc, a = .slice la ln lc → ln ≤ k + m) (h2 : ∀ la ln lc, b = .slice la ln lc → ln ≤ k + m) (h3 : ∀ la ln lc, c = .slice la ln lc → ln ≤ k + m) :
    Kp w W' C X k N l a b c ∧ MkLe W' N (k + m) v' := by
  have hsz : W.heap.size ≤ W'.heap.size := by
    rcases hr.2.2 with ⟨_, hg⟩ | ⟨_, hb⟩
    · exact hg.size
    · exact hb.size
  have hlow : Below C W W' := by
    rcases hr.2.2 with ⟨_, hg⟩ | ⟨_, hb⟩
    · exact ⟨hg.os, hg.tape, hg.output, hg.size, fun i hi => hg.block i (Nat.lt_of_lt_of_le hi (Nat.le_trans h.hC h.low.size)) (fun e => by have := (h.row.lt i e.symm).1; omega)⟩
    · exact hb.mono (Nat.le_trans h.hC h.low.size)
  have hblk : W'.heap[X]? = some (.cells #[l, a, b, c, .int .i64 N] 120) := by
    rcases hr.2.2 with ⟨_, hg⟩ | ⟨_, hb⟩
    · exact (hg.block X (ltOf h.blk) (fun e => h.ne e.symm)).trans h.blk
    · exact (hb.block X (ltOf h.blk)).trans h.blk
  refine ⟨⟨h.low.trans hlow, hblk, hr.2.1, ⟨mk_after h.ma.1 h1 hr, h.ma.2⟩, ⟨mk_after h.mb.1 h2 hr, h.mb.2⟩, ⟨mk_after h.mc.1 h3 hr, h.mc.2⟩, h.ne, h.hC⟩, ?_, ?_⟩
  · have ho := hr.1
    rw [← marks_add] at ho
    exact mk_of_own ho hk
  · intro la ln lc hv
    have ho := hr.1
    rcases ho.2 with ⟨h0, hn⟩ | ⟨g, cap, cur, h0, _⟩
    · rw [hv] at h0; cases h0; omega
    · rw [hv] at h0; cases h0; omega

theorem MkLe.set {W : World} {N k X j : Nat} {v u : Value} {xa : Option Addr} {xn xc : Nat} {r : List Value} (h : MkLe W N k v) (hx : W.heap[X]? = some (.cells (Value.slice xa xn xc :: r).toArray 120)) : MkLe (W.setCell ⟨X, j, none⟩ u) N k v := by
  refine ⟨?_, h.2⟩
  obtain ⟨la, ln, lc, hv, h1, h2, h3⟩ := h.1
  refine ⟨la, ln, lc, hv, h1, h2, fun i hi => ?_⟩
  obtain ⟨g, hg, hB, hc⟩ := h3 i hi
  have hne : g ≠ X := by
    intro e
    subst e
    obtain ⟨g', hg', _, hc'⟩ := h3 0 (by omega)
    rw [hg] at hg'
    cases hg'
    have h0 := cellOf (j := 0) hx rfl
    rw [h0] at hc'
    cases hc'
  refine ⟨g, hg, by simpa using hB, ?_⟩
  rw [← hc]
  unfold World.cell?
  rw [heap_setCell_other _ _ _ _ hne]

theorem below_setX {W : World} {C X j : Nat} {u : Value} (hX : C ≤ X) : Below C W (W.setCell ⟨X, j, none⟩ u) :=
  ⟨rfl, rfl, rfl, by simp, fun i hi => heap_setCell_other _ _ _ _ (by show i ≠ X; omega)⟩

theorem own_setX {W : World} {C X j k : Nat} {u l : Value} {xs : List Value} (h : W.ownsRow C 5 1 l k xs) (hne : l.ownBlock ≠ some X) : (W.setCell ⟨X, j, none⟩ u).ownsRow C 5 1 l k xs :=
  h.kept (row := some X) ⟨rfl, rfl, rfl, by simp, fun i _ hi => heap_setCell_other _ _ _ _ (fun e => hi (by rw [e]))⟩ (.inr hne)

theorem Kp.store1 {w W : World} {C X k N : Nat} {l a b c u : Value} (h : Kp w W C X k N l a b c) (hX : C ≤ X) (hu : MkLe W N (k + 1) u) : Kp w (W.setCell ⟨X, 1, none⟩ u) C X k N l u b c := by
  obtain ⟨la, lc, rfl⟩ := own_shape h.row
  exact ⟨h.low.trans (below_setX hX), heap_setCell_same W X 1 _ 120 u h.blk, own_setX h.row h.ne, hu.set h.blk, h.mb.set h.blk, h.mc.set h.blk, h.ne, h.hC⟩

theorem Kp.store2 {w W : World} {C X k N : Nat} {l a b c u : Value} (h : Kp w W C X k N l a b c) (hX : C ≤ X) (hu : MkLe W N (k + 2) u) : Kp w (W.setCell ⟨X, 2, none⟩ u) C X k N l a u c := by
  obtain ⟨la, lc, rfl⟩ := own_shape h.row
  exact ⟨h.low.trans (below_setX hX), heap_setCell_same W X 2 _ 120 u h.blk, own_setX h.row h.ne, h.ma.set h.blk, hu.set h.blk, h.mc.set h.blk, h.ne, h.hC⟩

theorem Kp.store3 {w W : World} {C X k N : Nat} {l a b c u : Value} (h : Kp w W C X k N l a b c) (hX : C ≤ X) (hu : MkLe W N (k + 3) u) : Kp w (W.setCell ⟨X, 3, none⟩ u) C X k N l a b u := by
  obtain ⟨la, lc, rfl⟩ := own_shape h.row
  exact ⟨h.low.trans (below_setX hX), heap_setCell_same W X 3 _ 120 u h.blk, own_setX h.row h.ne, h.ma.set h.blk, h.mb.set h.blk, hu.set h.blk, h.ne, h.hC⟩
end Go.Proofs.YtlghcldiboecoaaGreatDoor

/- The caller's books: a list of bytes is kept. -/
set_option linter.unusedVariables false
namespace Go.Proofs.YtlghcldiboecoaaGreatDoor
open Go.RowKit

theorem Tryz.info120 : (Tryz.prog.info? 120).map (fun i => (i.zero, i.size, i.bytes)) = some (some (.agg #[.slice none 0 0, .slice none 0 0, .slice none 0 0, .slice none 0 0, .int .i64 0]), 5, 104) := by kernel_rfl

theorem below_drew' (w : World) : Below w.heap.size w w.drew := ⟨rfl, rfl, rfl, Nat.le_refl _, fun _ _ => rfl⟩

/-- Marks stay where the blocks that change hold a list at their beginning. -/
theorem MkAt.keep {W W' : World} {N : Nat} {v : Value} (bad : Nat → Prop) (h : MkAt W W.heap.size N v) (hsz : W.heap.size ≤ W'.heap.size) (hsame : ∀ i, i < W.heap.size → ¬ bad i → W'.heap[i]? = W.heap[i]?)
    (hbad : ∀ i, bad i → ∃ a n c, W.cell? ⟨i, 0, none⟩ = some (.slice a n c)) : MkAt W' W'.heap.size N v := by
  obtain ⟨la, ln, lc, hv, h1, h2, h3⟩ := h
  refine ⟨la, ln, lc, hv, h1, h2, fun i hi => ?_⟩
  obtain ⟨g, hg, hB, hc⟩ := h3 i hi
  have hnb : ¬ bad g := by
    intro hb
    obtain ⟨a, n, c, hs⟩ := hbad g hb
    obtain ⟨g', hg', _, hc'⟩ := h3 0 (by omega)
    rw [hg] at hg'
    cases hg'
    rw [hs] at hc'
    cases hc'
  exact ⟨g, hg, Nat.lt_of_lt_of_le hB hsz, (World.cell?_of_block (w := W) (a := ⟨g, i, none⟩) (hsame g hB hnb)).trans hc⟩

theorem own_low {w W : World} {B C : Nat} {e : TypeId} {size : Nat} {v : Value} {n : Nat} {xs : List Value} (h : w.ownsRow B e size v n xs) (hb : Below C w W) (hv : ∀ g, v.ownBlock = some g → g < C) : W.ownsRow B e size v n xs := by
  refine ⟨h.1, ?_⟩
  rcases h.2 with h0 | ⟨g, cap, cur, rfl, h1, h2, h3⟩
  · exact .inl h0
  · exact .inr ⟨g, cap, cur, rfl, h1, (hb.block g (hv g rfl)).trans h2, h3⟩

theorem more_one (N k m : Nat) : ∀ u, u ∈ more N k m → u.oneCell' = true := by
  intro u hu
  obtain ⟨x, _, rfl⟩ := List.mem_map.1 hu
  rfl

set_option maxHeartbeats 1000000 in
theorem kb_end {w W w5 : World} {K o X C B k N bc g cap : Nat} {cs : Array Value} {kt : TypeId} {ba : Option Addr} {flat : List Value} {l a b c : Value}
    (KP : Kp w W C X k N l a b c) (hk : k ≤ 2000) (hK : K < C) (hKB : w.heap[K]? = some (.cells cs kt)) (hK0 : ∃ a n c, cs[0]? = some (.slice a n c))
    (hz : N = 0 → ba = none) (hf0 : 0 < N → ∃ a n c, flat[0]? = some (.slice a n c)) (hKr : (Value.slice ba N bc).ownBlock ≠ some K) (hrC : ∀ g, (Value.slice ba N bc).ownBlock = some g → g < C)
    (hrow : W.ownsRow B 120 5 (.slice ba N bc) N flat) (hown : w5.ownsRow B 120 5 (.slice (some ⟨g, 0, none⟩) (N + 1) cap) (N + 1) (flat ++ [l, a, b, c, .int .i64 N]))
    (hgrow : W.drew.grownBy w5 (Value.slice ba N bc).ownBlock) (hat : (Value.slice ba N bc).ownBlock = some g ∨ g = W.drew.heap.size) :
    ∃ ba' bc' l a b c, (w5.setCell ⟨K, o, none⟩ (.slice (some ⟨g, 0, none⟩) (N + 1) cap)).heap[K]? = some (.cells (cs.setIfInBounds o (.slice ba' (N + 1) bc')) kt) ∧
      (w5.setCell ⟨K, o, none⟩ (.slice (some ⟨g, 0, none⟩) (N + 1) cap)).ownsRow B 120 5 (.slice ba' (N + 1) bc') (N + 1) (flat ++ [l, a, b, c, .int .i64 N]) ∧
      (MkAt (w5.setCell ⟨K, o, none⟩ (.slice (some ⟨g, 0, none⟩) (N + 1) cap)) (w5.setCell ⟨K, o, none⟩ (.slice (some ⟨g, 0, none⟩) (N + 1) cap)).heap.size N l ∧ MkAt (w5.setCell ⟨K, o, none⟩ (.slice (some ⟨g, 0, none⟩) (N + 1) cap)) (w5.setCell ⟨K, o, none⟩ (.slice (some ⟨g, 0, none⟩) (N + 1) cap)).heap.size N a ∧
        MkAt (w5.setCell ⟨K, o, none⟩ (.slice (some ⟨g, 0, none⟩) (N + 1) cap)) (w5.setCell ⟨K, o, none⟩ (.slice (some ⟨g, 0, none⟩) (N + 1) cap)).heap.size N b ∧ MkAt (w5.setCell ⟨K, o, none⟩ (.slice (some ⟨g, 0, none⟩) (N + 1) cap)) (w5.setCell ⟨K, o, none⟩ (.slice (some ⟨g, 0, none⟩) (N + 1) cap)).heap.size N c) ∧
      ((Value.slice ba' (N + 1) bc').ownBlock = (Value.slice ba N bc).ownBlock ∨ ∃ g, (Value.slice ba' (N + 1) bc').ownBlock = some g ∧ w.heap.size ≤ g) ∧
      ((w5.setCell ⟨K, o, none⟩ (.slice (some ⟨g, 0, none⟩) (N + 1) cap)).os = w.os ∧ (w5.setCell ⟨K, o, none⟩ (.slice (some ⟨g, 0, none⟩) (N + 1) cap)).tape = w.tape ∧ (w5.setCell ⟨K, o, none⟩ (.slice (some ⟨g, 0, none⟩) (N + 1) cap)).output = w.output ∧ w.heap.size ≤ (w5.setCell ⟨K, o, none⟩ (.slice (some ⟨g, 0, none⟩) (N + 1) cap)).heap.size) ∧
      ∀ i, i < C → i ≠ K → (Value.slice ba N bc).ownBlock ≠ some i → (w5.setCell ⟨K, o, none⟩ (.slice (some ⟨g, 0, none⟩) (N + 1) cap)).heap[i]? = w.heap[i]? := by
  have hW : W.heap.size ≤ w5.heap.size := hgrow.size
  have hCW : C ≤ W.heap.size := Nat.le_trans KP.hC KP.low.size
  have hKW : W.heap[K]? = some (.cells cs kt) := (KP.low.block K hK).trans hKB
  have hK5 : w5.heap[K]? = some (.cells cs kt) := (hgrow.block K (by show K < W.heap.size; omega) (fun e => hKr e.symm)).trans hKW
  have hgK : g ≠ K := by
    rcases hat with h | h
    · intro e; subst e; exact hKr h
    · have : g = W.heap.size := h
      omega
  have hother : ∀ i, i ≠ K → (w5.setCell ⟨K, o, none⟩ (.slice (some ⟨g, 0, none⟩) (N + 1) cap)).heap[i]? = w5.heap[i]? := fun i hi => heap_setCell_other _ _ _ _ hi
  have hbad : ∀ i, (i = K ∨ (Value.slice ba N bc).ownBlock = some i) → ∃ a n c, W.cell? ⟨i, 0, none⟩ = some (.slice a n c) := by
    intro i hi
    rcases hi with rfl | hi
    · obtain ⟨a, n, c, h⟩ := hK0
      exact ⟨a, n, c, cellOf hKW h⟩
    · by_cases h0 : N = 0
      · rw [hz h0] at hi
        cases hi
      · obtain ⟨a, n, c, h⟩ := hf0 (by omega)
        have := hrow.cells hi 0 _ h
        exact ⟨a, n, c, this⟩
  have hmk : ∀ v, MkAt W W.heap.size N v → MkAt (w5.setCell ⟨K, o, none⟩ (.slice (some ⟨g, 0, none⟩) (N + 1) cap)) (w5.setCell ⟨K, o, none⟩ (.slice (some ⟨g, 0, none⟩) (N + 1) cap)).heap.size N v := fun v hv =>
    hv.keep (fun i => i = K ∨ (Value.slice ba N bc).ownBlock = some i) (by simpa using hW) (fun i hi hnb => by
      rw [hother i (fun e => hnb (.inl e))]
      exact hgrow.block i hi (fun e => hnb (.inr e.symm))) hbad
  refine ⟨some ⟨g, 0, none⟩, cap, l, a, b, c, heap_setCell_same w5 K o _ kt _ hK5, ?_, ⟨hmk l (mk_of_own KP.row (by omega)), hmk a KP.ma.1, hmk b KP.mb.1, hmk c KP.mc.1⟩, ?_, ⟨?_, ?_, ?_, ?_⟩, ?_⟩
  · exact hown.kept (row := some K) ⟨rfl, rfl, rfl, by simp, fun i _ hi => heap_setCell_other _ _ _ _ (fun e => hi (by rw [e]))⟩ (.inr (by simp [Value.ownBlock, hgK]))
  · rcases hat with h | h
    · exact .inl h.symm
    · exact .inr ⟨g, rfl, by have : g = W.heap.size := h; have := KP.low.size; omega⟩
  · exact hgrow.os.trans KP.low.os
  · exact hgrow.tape.trans KP.low.tape
  · exact hgrow.output.trans KP.low.output
  · have := KP.low.size
    have h5 : (w5.setCell ⟨K, o, none⟩ (.slice (some ⟨g, 0, none⟩) (N + 1) cap)).heap.size = w5.heap.size := by simp
    omega
  · intro i hi hiK hir
    rw [hother i hiK]
    exact (hgrow.block i (by show i < W.heap.size; omega) (fun e => hir e.symm)).trans (KP.low.block i hi)

set_option maxRecDepth 8000 in
set_option maxHeartbeats 4000000 in
/-- keepBytes: the list is marked, appended to three times, and kept. -/
theorem keepBytes_any (w : World) (K o : Nat) (cs : Array Value) (kt : TypeId) (ba : Option Addr) (N bc : Nat) (hkb : w.heap[K]? = some (.cells cs kt)) (hk0 : ∃ a n c, cs[0]? = some (.slice a n c)) (hko : cs[o]? = some (.slice ba N bc))
    (B : Nat) (flat : List Value) (hrow : w.ownsRow B 120 5 (.slice ba N bc) N flat) (hz : N = 0 → ba = none) (hf0 : 0 < N → ∃ a n c, flat[0]? = some (.slice a n c)) (hKr : (Value.slice ba N bc).ownBlock ≠ some K)
    (C : Nat) (hK : K < C) (hrC : ∀ g, (Value.slice ba N bc).ownBlock = some g → g < C) (hB : B ≤ C) (hC : C ≤ w.heap.size) (lv : Value) (at' : Nat) (xs : List Value) (hat : at' ≤ 1500) (hN : N ≤ 1000000000)
    (hown : w.ownsRow C 5 1 lv at' xs) :
    Calls Tryz.prog 85 #[.pointer (some ⟨K, o, none⟩), lv] w fun e w' => e = .returned (.tuple #[]) ∧ ∃ ba' bc' l a b c, w'.heap[K]? = some (.cells (cs.setIfInBounds o (.slice ba' (N + 1) bc')) kt) ∧
      w'.ownsRow B 120 5 (.slice ba' (N + 1) bc') (N + 1) (flat ++ [l, a, b, c, .int .i64 N]) ∧ (MkAt w' w'.heap.size N l ∧ MkAt w' w'.heap.size N a ∧ MkAt w' w'.heap.size N b ∧ MkAt w' w'.heap.size N c) ∧
      ((Value.slice ba' (N + 1) bc').ownBlock = (Value.slice ba N bc).ownBlock ∨ ∃ g, (Value.slice ba' (N + 1) bc').ownBlock = some g ∧ w.heap.size ≤ g) ∧
      (w'.os = w.os ∧ w'.tape = w.tape ∧ w'.output = w.output ∧ w.heap.size ≤ w'.heap.size) ∧ ∀ i, i < C → i ≠ K → (Value.slice ba N bc).ownBlock ≠ some i → w'.heap[i]? = w.heap[i]? := by
  have hk : w.cell? ⟨K, o, none⟩ = some (.slice ba N bc) := cellOf hkb hko
  have HKB := hid hkb
  have HROW := hid hrow
  have HK0 := hid hk0
  have HF0 := hid hf0
  have HZ := hid hz
  have HKR := hid hKr
  have HRC := hid hrC
  have HKO := hid hko
  clear hkb hrow hk0 hf0 hz hKr hrC hko
  obtain ⟨la, lc, rfl⟩ := own_shape hown
  have hxl : xs.length = at' := by have := hown.1; omega
  have HXL := hid hxl
  have HO := hid hown
  clear hxl hown
  have HM : Hid (∀ (W : World) (i : Nat), i ≤ 2000 → Calls Tryz.prog 114 #[.int .i64 N, .int .i64 i] W fun e w' => e = .returned (.int .u8 (mark N i).toNat) ∧ w' = W) := fun W i hi => markByte_any W N i (by omega) (by omega)
  have HM0 : Hid (∀ W : World, Calls Tryz.prog 114 #[.int .i64 N, .int .i64 at'] W fun e w' => e = .returned (.int .u8 (mark N at').toNat) ∧ w' = W) := fun W => HM.out W at' (by omega)
  have HM1 : Hid (∀ W : World, Calls Tryz.prog 114 #[.int .i64 N, .int .i64 ((at' : Int) + 1)] W fun e w' => e = .returned (.int .u8 (mark N (at' + 1)).toNat) ∧ w' = W) := fun W => HM.out W (at' + 1) (by omega)
  have HM2 : Hid (∀ W : World, Calls Tryz.prog 114 #[.int .i64 N, .int .i64 ((at' : Int) + 2)] W fun e w' => e = .returned (.int .u8 (mark N (at' + 2)).toNat) ∧ w' = W) := fun W => HM.out W (at' + 2) (by omega)
  have HMZ : Hid (∀ (W : World) (x : Int), 0 ≤ x → x ≤ 2000 → Calls Tryz.prog 114 #[.int .i64 N, .int .i64 x] W fun e w' => e = .returned (.int .u8 (mark N x.toNat).toNat) ∧ w' = W) := fun W x h0 h1 => by
    obtain ⟨i, rfl⟩ := Int.eq_ofNat_of_zero_le h0
    exact HM.out W i (by omega)
  have hT0 : ((at' : Int)).toNat = at' := by omega
  have hT1 : ((at' : Int) + 1).toNat = at' + 1 := by omega
  have hT2 : ((at' : Int) + 2).toNat = at' + 2 := by omega
  have HT0 := hid hT0
  have HT1 := hid hT1
  have HT2 := hid hT2
  clear hT0 hT1 hT2 HM0 HM1 HM2
  go_enter Tryz.func85, Tryz.ntmps85
  go_wp2
  go_loopw [6] (fun k wr => ∃ i : Nat, k = .int .i64 i ∧ i ≤ at' ∧ Hid (Below C w wr) ∧ Hid (wr.ownsRow C 5 1 (.slice la at' lc) at' (marks N i ++ xs.drop i))) (fun k _ => at' - (intOf k).toNat)
  case atStart => exact ⟨0, rfl, Nat.zero_le _, Below.refl _ _, HO⟩
  case round =>
    obtain ⟨i, rfl, hi, HB, HR⟩ := hrel
    by_cases hlt : i < at'
    · have hltz : (i : Int) < (at' : Int) := by omega
      obtain ⟨g, cap, hv, _⟩ := own_bytes' HR.out (by omega)
      cases hv
      have hfr := HR.out.frozenAt i
      obtain ⟨old, hce⟩ : ∃ old, wr.cell? ⟨g, i, none⟩ = some old := by
        have h := HR.out.cellAt i (by omega)
        rw [List.getElem?_append_right (by rw [marks_len]; omega), marks_len, Nat.sub_self, List.getElem?_drop, Nat.add_zero, List.getElem?_eq_getElem (by rw [HXL.out]; exact hlt)] at h
        exact ⟨_, h⟩
      have HMi := hid (HM.out wr i (by omega))
      have HST : Hid ((wr.setCell ⟨g, i, none⟩ (.int .u8 (mark N i).toNat)).ownsRow C 5 1 (.slice (some ⟨g, 0, none⟩) at' lc) at' (marks N (i + 1) ++ xs.drop (i + 1))) := by
        have h := (HR.out.stored i (.int .u8 (mark N i).toNat)).1
        rw [set_marks (by rw [HXL.out]; exact hlt)] at h
        exact h
      have HBT : Hid (Below C w (wr.setCell ⟨g, i, none⟩ (.int .u8 (mark N i).toNat))) := by
        have h := (HR.out.stored i (.int .u8 (mark N i).toNat)).2
        have hg := (HR.out.lt g rfl).1
        exact HB.out.trans ⟨h.os, h.tape, h.output, h.size, fun k hk => h.block k (Nat.lt_of_lt_of_le hk (Nat.le_trans hC HB.out.size)) (fun e => by cases e; omega)⟩
      generalize mark N i = mk at *
      go_wp2_with (go_at_call 114; refine HMi.out.mono ?_; rintro e w1 ⟨rfl, hw1⟩; have hw2 := hw1.symm; clear hw1; subst hw2)
      all_goals go_roundw
      all_goals try (case rel => exact ⟨i + 1, by go_num, by omega, HBT, HST⟩)
      all_goals try (case measure => simp [intOf]; omega)
    · have hltz : ¬ (i : Int) < (at' : Int) := by omega
      have hie : i = at' := by omega
      have HOM : Hid (wr.ownsRow C 5 1 (.slice la at' lc) at' (marks N at')) := by
        have h := HR.out
        rw [hie, List.drop_of_length_le (by rw [HXL.out]; omega), List.append_nil] at h
        exact h
      clear HR
      have hwr : C ≤ wr.heap.size := Nat.le_trans hC HB.out.size
      have KP : Hid (Kp w (wr.alloc (.cells #[.slice la at' lc, .slice none 0 0, .slice none 0 0, .slice none 0 0, .int .i64 N] 120)) C wr.heap.size at' N (.slice la at' lc) (.slice none 0 0) (.slice none 0 0) (.slice none 0 0)) :=
        ⟨HB.out.alloc hwr _, heap_alloc_new _ _, HOM.out.alloc _, MkLe.nil _ _ _, MkLe.nil _ _ _, MkLe.nil _ _ _, fun e => by have := (HOM.out.lt _ e).2; omega, hC⟩
      have KP2 : Hid (Kp w ((wr.alloc (.cells #[.slice la at' lc, .slice none 0 0, .slice none 0 0, .slice none 0 0, .int .i64 N] 120)).alloc (.cells #[.int .u8 (mark N at').toNat] 5)) C wr.heap.size at' N (.slice la at' lc) (.slice none 0 0) (.slice none 0 0) (.slice none 0 0)) := KP.out.after (below1 _ _)
      have HNA : Hid (((wr.alloc (.cells #[.slice la at' lc, .slice none 0 0, .slice none 0 0, .slice none 0 0, .int .i64 N] 120)).alloc (.cells #[.int .u8 (mark N at').toNat] 5)).heap[wr.heap.size + 1]? = some (.cells #[.int .u8 (mark N at').toNat] 5)) := by
        have h := heap_alloc_new (wr.alloc (.cells #[.slice la at' lc, .slice none 0 0, .slice none 0 0, .slice none 0 0, .int .i64 N] 120)) (.cells #[.int .u8 (mark N at').toNat] 5)
        rw [show (wr.alloc (.cells #[.slice la at' lc, .slice none 0 0, .slice none 0 0, .slice none 0 0, .int .i64 N] 120)).heap.size = wr.heap.size + 1 by simp] at h
        exact h
      obtain ⟨i0, hi0, hz0, hz1, hz2⟩ := info_parts Tryz.info5
      go_wp2_with (first
        | (at_builtin; refine wpList_append_keep _ rfl _ _ 57 rfl C 5 i0 (.int .u8 0) 1 1 Tryz.underlying57 hi0 hz0 hz1 hz2 rfl (by decide) _ at' (marks N at') rfl KP2.out.row ⟨wr.heap.size + 1, 0, none⟩ 1 1 (more N at' 1) rfl (by simp) ?hnews (by simp [Value.oneCell']) (by omega) (by unfold maxLen; omega) (by omega) (Nat.le_trans hC KP2.out.low.size) ?_)
        | (go_at_call 114; refine (HM.out _ at' (by omega)).mono ?_; rintro e w1 ⟨rfl, hw1⟩; have hw2 := hw1.symm; clear hw1; subst hw2))
      case hnews =>
        intro j u hj
        cases j with
        | zero =>
          simp at hj
          subst hj
          exact cellOf (j := 0) HNA.out rfl
        | succ j => simp at hj
      intro V1 w2 hr1
      obtain ⟨kp1, mk1⟩ := KP2.out.append hr1 (by omega) (fun _ _ _ h => by cases h; omega) (fun _ _ _ h => by cases h; omega) (fun _ _ _ h => by cases h; omega)
      obtain ⟨va1, n1, vc1, hv1⟩ : ∃ a n c, V1 = .slice a n c := by obtain ⟨a, c, h⟩ := own_shape hr1.1; exact ⟨a, _, c, h⟩
      subst hv1
      have KP3 := hid kp1
      have MK1 := hid mk1
      clear hr1 kp1 mk1 KP KP2 HNA HOM HO HXL HB hie hlt
      have q1 := cellOf (j := 1) KP3.out.blk rfl
      have z1 := frozen_of_row w2 wr.heap.size 1 _ 120 KP3.out.blk
      have KS1 : Hid (Kp w (w2.setCell ⟨wr.heap.size, 1, none⟩ (.slice va1 n1 vc1)) C wr.heap.size at' N (.slice la at' lc) (.slice va1 n1 vc1) (.slice none 0 0) (.slice none 0 0)) := KP3.out.store1 hwr MK1.out
      clear KP3
      have KT1 : Hid (Kp w ((w2.setCell ⟨wr.heap.size, 1, none⟩ (.slice va1 n1 vc1)).alloc (.cells #[.int .u8 (mark N (at' : Int).toNat).toNat, .int .u8 (mark N ((at' : Int) + 1).toNat).toNat] 5)) C wr.heap.size at' N (.slice la at' lc) (.slice va1 n1 vc1) (.slice none 0 0) (.slice none 0 0)) := KS1.out.after (below1 _ _)
      have HN1 : Hid (((w2.setCell ⟨wr.heap.size, 1, none⟩ (.slice va1 n1 vc1)).alloc (.cells #[.int .u8 (mark N (at' : Int).toNat).toNat, .int .u8 (mark N ((at' : Int) + 1).toNat).toNat] 5)).heap[w2.heap.size]? = some (.cells #[.int .u8 (mark N (at' : Int).toNat).toNat, .int .u8 (mark N ((at' : Int) + 1).toNat).toNat] 5)) := by
        have h := heap_alloc_new (w2.setCell ⟨wr.heap.size, 1, none⟩ (.slice va1 n1 vc1)) (.cells #[.int .u8 (mark N (at' : Int).toNat).toNat, .int .u8 (mark N ((at' : Int) + 1).toNat).toNat] 5)
        rw [show (w2.setCell ⟨wr.heap.size, 1, none⟩ (.slice va1 n1 vc1)).heap.size = w2.heap.size by simp] at h
        exact h
      go_wp2_with (first
        | (at_builtin; refine wpList_append_keep _ rfl _ _ 57 rfl C 5 i0 (.int .u8 0) 1 1 Tryz.underlying57 hi0 hz0 hz1 hz2 rfl (by decide) _ at' (marks N at') rfl KT1.out.row ⟨w2.heap.size, 0, none⟩ 2 2 (more N at' 2) rfl (by simp) ?hnews (more_one N at' 2) (by omega) (by unfold maxLen; omega) (by omega) (Nat.le_trans hC KT1.out.low.size) ?_)
        | (go_at_call 114; refine (HMZ.out _ _ (by omega) (by omega)).mono ?_; rintro e w1 ⟨rfl, hw1⟩; have hw2 := hw1.symm; clear hw1; subst hw2))
      case hnews =>
        intro j u hj
        have hj1 : j < 2 := by have := (List.getElem?_eq_some_iff.1 hj).1; simpa using this
        obtain rfl | rfl : j = 0 ∨ j = 1 := by omega
        · cases hj
          have h := cellOf (j := 0) HN1.out rfl
          rw [HT0.out] at h
          exact h
        · cases hj
          have h := cellOf (j := 1) HN1.out rfl
          rw [HT1.out] at h
          exact h
      intro V2 w3 hr2
      obtain ⟨kp2, mk2⟩ := KT1.out.append hr2 (by omega) (fun x y z h => Nat.le_trans (MK1.out.2 x y z h) (by omega)) (fun _ _ _ h => by cases h; omega) (fun _ _ _ h => by cases h; omega)
      obtain ⟨va2, n2, vc2, hv2⟩ : ∃ a n c, V2 = .slice a n c := by obtain ⟨a, c, h⟩ := own_shape hr2.1; exact ⟨a, _, c, h⟩
      subst hv2
      have KP4 := hid kp2
      have MK2 := hid mk2
      clear hr2 kp2 mk2 q1 z1 KS1 KT1 HN1
      have q2 := cellOf (j := 2) KP4.out.blk rfl
      have z2 := frozen_of_row w3 wr.heap.size 2 _ 120 KP4.out.blk
      have KS2 : Hid (Kp w (w3.setCell ⟨wr.heap.size, 2, none⟩ (.slice va2 n2 vc2)) C wr.heap.size at' N (.slice la at' lc) (.slice va1 n1 vc1) (.slice va2 n2 vc2) (.slice none 0 0)) := KP4.out.store2 hwr MK2.out
      clear KP4
      have KT2 : Hid (Kp w ((w3.setCell ⟨wr.heap.size, 2, none⟩ (.slice va2 n2 vc2)).alloc (.cells #[.int .u8 (mark N (at' : Int).toNat).toNat, .int .u8 (mark N ((at' : Int) + 1).toNat).toNat, .int .u8 (mark N ((at' : Int) + 2).toNat).toNat] 5)) C wr.heap.size at' N (.slice la at' lc) (.slice va1 n1 vc1) (.slice va2 n2 vc2) (.slice none 0 0)) := KS2.out.after (below1 _ _)
      have HN2 : Hid (((w3.setCell ⟨wr.heap.size, 2, none⟩ (.slice va2 n2 vc2)).alloc (.cells #[.int .u8 (mark N (at' : Int).toNat).toNat, .int .u8 (mark N ((at' : Int) + 1).toNat).toNat, .int .u8 (mark N ((at' : Int) + 2).toNat).toNat] 5)).heap[w3.heap.size]? = some (.cells #[.int .u8 (mark N (at' : Int).toNat).toNat, .int .u8 (mark N ((at' : Int) + 1).toNat).toNat, .int .u8 (mark N ((at' : Int) + 2).toNat).toNat] 5)) := by
        have h := heap_alloc_new (w3.setCell ⟨wr.heap.size, 2, none⟩ (.slice va2 n2 vc2)) (.cells #[.int .u8 (mark N (at' : Int).toNat).toNat, .int .u8 (mark N ((at' : Int) + 1).toNat).toNat, .int .u8 (mark N ((at' : Int) + 2).toNat).toNat] 5)
        rw [show (w3.setCell ⟨wr.heap.size, 2, none⟩ (.slice va2 n2 vc2)).heap.size = w3.heap.size by simp] at h
        exact h
      go_wp2_with (first
        | (at_builtin; refine wpList_append_keep _ rfl _ _ 57 rfl C 5 i0 (.int .u8 0) 1 1 Tryz.underlying57 hi0 hz0 hz1 hz2 rfl (by decide) _ at' (marks N at') rfl KT2.out.row ⟨w3.heap.size, 0, none⟩ 3 3 (more N at' 3) rfl (by simp) ?hnews (more_one N at' 3) (by omega) (by unfold maxLen; omega) (by omega) (Nat.le_trans hC KT2.out.low.size) ?_)
        | (go_at_call 114; refine (HMZ.out _ _ (by omega) (by omega)).mono ?_; rintro e w1 ⟨rfl, hw1⟩; have hw2 := hw1.symm; clear hw1; subst hw2))
      case hnews =>
        intro j u hj
        have hj1 : j < 3 := by have := (List.getElem?_eq_some_iff.1 hj).1; simpa using this
        obtain rfl | rfl | rfl : j = 0 ∨ j = 1 ∨ j = 2 := by omega
        · cases hj
          have h := cellOf (j := 0) HN2.out rfl
          rw [HT0.out] at h
          exact h
        · cases hj
          have h := cellOf (j := 1) HN2.out rfl
          rw [HT1.out] at h
          exact h
        · cases hj
          have h := cellOf (j := 2) HN2.out rfl
          rw [HT2.out] at h
          exact h
      intro V3 w4 hr3
      obtain ⟨kp3, mk3⟩ := KT2.out.append hr3 (by omega) (fun x y z h => Nat.le_trans (MK1.out.2 x y z h) (by omega)) (fun x y z h => Nat.le_trans (MK2.out.2 x y z h) (by omega)) (fun _ _ _ h => by cases h; omega)
      obtain ⟨va3, n3, vc3, hv3⟩ : ∃ a n c, V3 = .slice a n c := by obtain ⟨a, c, h⟩ := own_shape hr3.1; exact ⟨a, _, c, h⟩
      subst hv3
      have KP5 := hid kp3
      have MK3 := hid mk3
      clear hr3 kp3 mk3 q2 z2 KS2 KT2 HN2
      have q3 := cellOf (j := 3) KP5.out.blk rfl
      have z3 := frozen_of_row w4 wr.heap.size 3 _ 120 KP5.out.blk
      have KS3 : Hid (Kp w (w4.setCell ⟨wr.heap.size, 3, none⟩ (.slice va3 n3 vc3)) C wr.heap.size at' N (.slice la at' lc) (.slice va1 n1 vc1) (.slice va2 n2 vc2) (.slice va3 n3 vc3)) := KP5.out.store3 hwr MK3.out
      clear KP5
      go_wp2
      clear q3 z3
      refine wp_gen (fun W => Kp w W C wr.heap.size at' N (.slice la at' lc) (.slice va1 n1 vc1) (.slice va2 n2 vc2) (.slice va3 n3 vc3)) KS3.out ?_
      intro W0 k0
      clear KS3
      have KS := hid k0
      clear k0
      have hkc := (KS.out.low.cell (p := ⟨K, o, none⟩) hK).trans hk
      have X0 := cellOf (j := 0) KS.out.blk rfl
      have X1 := cellOf (j := 1) KS.out.blk rfl
      have X2 := cellOf (j := 2) KS.out.blk rfl
      have X3 := cellOf (j := 3) KS.out.blk rfl
      have X4 := cellOf (j := 4) KS.out.blk rfl
      clear hk
      clear HMZ HM HT0 HT1 HT2
      have HNEWB := hid (heap_alloc_new W0 (.cells #[.slice la at' lc, .slice va1 n1 vc1, .slice va2 n2 vc2, .slice va3 n3 vc3, .int .i64 N] 120))
      have HROW0 := hid ((own_low HROW.out KS.out.low HRC.out).alloc (.cells #[.slice la at' lc, .slice va1 n1 vc1, .slice va2 n2 vc2, .slice va3 n3 vc3, .int .i64 N] 120))
      have HKP0 := hid (KS.out.after (below1 W0 (.cells #[.slice la at' lc, .slice va1 n1 vc1, .slice va2 n2 vc2, .slice va3 n3 vc3, .int .i64 N] 120)))
      have HKW : Hid ((W0.alloc (.cells #[.slice la at' lc, .slice va1 n1 vc1, .slice va2 n2 vc2, .slice va3 n3 vc3, .int .i64 N] 120)).heap[K]? = some (.cells cs kt)) := (HKP0.out.low.block K hK).trans HKB.out
      have hkc2 := cellOf HKW.out HKO.out
      obtain ⟨j0, hj0, hy0, hy1, hy2⟩ := info_parts Tryz.info120
      go_region_law (refine step_append_lies _ rfl (.tmp 66) (.tmp 68) 66 rfl B 120 j0 _ 5 104 Tryz.underlying66 hj0 hy0 hy1 hy2 rfl (by decide) (.slice ba N bc) N flat (by simp [Act.eval]) HROW0.out.drew ⟨W0.heap.size, 0, none⟩ 1 1 _ (by simp [Act.eval]) (by rfl) (World.news_of_block HNEWB.out) (by intro u hu; simp at hu; rcases hu with rfl | rfl | rfl | rfl | rfl <;> rfl) (by omega) (by unfold maxLen; omega) (by omega) (by show B ≤ _; exact Nat.le_trans hB (Nat.le_trans hC HKP0.out.low.size)) _ rfl ?_; intro g cap w5 hown5 hgrow hat5 hlt5; have HK5 := hid ((hgrow.block K (by show K < _; exact ltOf HKW.out) (fun e => HKR.out e.symm)).trans HKW.out); have k5 := cellOf HK5.out HKO.out; have z5 := frozen_of_row w5 K o _ _ HK5.out; have HOWN5 := hid hown5; have HGR5 := hid hgrow; have HAT5 := hid hat5; clear hown5 hgrow hat5)
      all_goals go_end0
      all_goals exact ⟨rfl, kb_end HKP0.out (by omega) hK HKB.out HK0.out HZ.out HF0.out HKR.out HRC.out HROW0.out HOWN5.out HGR5.out HAT5.out⟩
end Go.Proofs.YtlghcldiboecoaaGreatDoor
