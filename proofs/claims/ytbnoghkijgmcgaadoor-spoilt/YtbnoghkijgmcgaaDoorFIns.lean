/- put: a node more, in its place. -/
import Derived.Test.YtbnoghkijgmcgaaDoorFSaved
set_option linter.unusedVariables false
namespace Go.Proofs.YtbnoghkijgmcgaaDoor
open Go.RowKit

def ltP (a b : ByteArray) : Bool := Op.bytesLess a.toList b.toList

/-- A node more, in its place; one of that path stays as it is. -/
def insN (x : Orch.Node) : List Orch.Node → List Orch.Node
  | [] => [x]
  | a :: r => if ltP x.path a.path = true then x :: a :: r else if (x.path.toList == a.path.toList) = true then a :: r else a :: insN x r

section
variable (w : World)
theorem wpList_append_node {ops : Array Oper} {rest : List Oper} {o : Oper} {a : Act} {Q : Exit → Act → World → Prop} (hgd : o.guard = none) (s x : Operand)
    (ho : o.op = .call { callee := .builtin .append, args := #[s, x], argTypes := #[44, 44] }) (base : Nat) (v : Value) (pre : List Orch.Node) (hs : a.eval s = v) (hown : w.ownsRow base 69 6 v pre.length (pre.flatMap ncell))
    (g : Nat) (p d t : ByteArray) (m c r : Int) (hx : a.eval x = .slice (some ⟨g, 0, none⟩) 1 1) (hg : w.heap[g]? = some (.cells #[.string p, .string d, .string t, .int .i64 m, .int .i64 c, .int .i64 r] 69)) (hl : pre.length ≤ 1000) (hbase : base ≤ w.heap.size)
    (h : ∀ v' w', w'.ownsRow base 69 6 v' (pre ++ [(⟨p, d, t, m, c, r⟩ : Orch.Node)]).length ((pre ++ [(⟨p, d, t, m, c, r⟩ : Orch.Node)]).flatMap ncell) → Below base w w' → wpList Tryd.prog ops Q rest (a.put o.dst v') w') : wpList Tryd.prog ops Q (o :: rest) a w := by
  obtain ⟨i0, hi0, hz0, hz1, hz2⟩ := info_parts Tryd.info69
  refine wpList_append_own w hgd s x 44 ho base 69 i0 (ndv ⟨#[]⟩ ⟨#[]⟩ ⟨#[]⟩ 0 0 0) 6 72 Tryd.underlying44 hi0 hz0 hz1 hz2 rfl (by decide) v pre.length (pre.flatMap ncell) hs hown ⟨g, 0, none⟩ 1 1 (ncell ⟨p, d, t, m, c, r⟩) hx rfl (World.news_of_block hg) ?_ (by unfold maxLen; omega) (by omega) hbase (fun v' w' ho' hgr _ => h v' w' ?_ ((Below.refl base w).grown hgr hbase (fun j hj => (hown.lt j hj).1)))
  · intro u hu
    simp only [ncell, List.mem_cons, List.mem_nil_iff, or_false] at hu
    rcases hu with rfl | rfl | rfl | rfl | rfl | rfl <;> rfl
  · rw [List.length_append, List.flatMap_append]
    simpa using ho'
end

set_option maxRecDepth 8000 in
set_option maxHeartbeats 4000000 in
theorem put_any (w : World) (lv : Value) (ns : List Orch.Node) (hns : NsAt w w.heap.size lv ns) (hlen : ns.length ≤ 32) (x : Orch.Node) :
    Calls Tryd.prog 25 #[lv, ndv x.path x.data x.note x.made x.changed x.version] w fun e w' => (∃ v, e = .returned v ∧ w'.ownsRow w.heap.size 69 6 v (insN x ns).length ((insN x ns).flatMap ncell)) ∧ Below w.heap.size w w' := by
  obtain ⟨p, d, t, m, c, v⟩ := x
  simp only
  have HNS : Hid (∀ W, Below w.heap.size w W → NsAt W w.heap.size lv ns) := fun W h => hns.below h
  obtain ⟨b, off, cap, rfl, hcap, hblt, _⟩ := hns
  have hn0 := heap_alloc_new w (.cells #[.string p, .string d, .string t, .int .i64 m, .int .i64 c, .int .i64 v] 69)
  have HN0 := hide hn0
  have HB0 : Hid (Below w.heap.size w (w.alloc (.cells #[.string p, .string d, .string t, .int .i64 m, .int .i64 c, .int .i64 v] 69))) := below1 _ _
  have HS0 : Hid ((w.alloc (.cells #[.string p, .string d, .string t, .int .i64 m, .int .i64 c, .int .i64 v] 69)).heap.size = w.heap.size + 1) := by show _ = _; simp
  obtain ⟨i0, hi0, hz0, hz1, hz2⟩ := info_parts Tryd.info69
  clear hn0
  obtain ⟨LL, hLL⟩ : ∃ LL, LL = insN ⟨p, d, t, m, c, v⟩ ns := ⟨_, rfl⟩
  rw [← hLL]
  have HLL := hide hLL
  clear hLL
  go_enter Tryd.func25, Tryd.ntmps25
  go_wp2_with fail
  generalize w.alloc (.cells #[.string p, .string d, .string t, .int .i64 m, .int .i64 c, .int .i64 v] 69) = w0 at *
  go_loopw [5, 6, 7] (fun o dn i wr => ∃ (k : Nat) (done : Bool) (pre : List Orch.Node), k ≤ ns.length ∧ i = .int .i64 k ∧ dn = .bool done ∧ (pre.length ≤ k + 1 ∧ (done = false → pre.length ≤ k)) ∧ Hid (wr.ownsRow (w.heap.size + 1) 69 6 o pre.length (pre.flatMap ncell)) ∧ Hid (Below (w.heap.size + 1) w0 wr) ∧
      Hid (LL = if done = true then pre ++ ns.drop k else pre ++ insN ⟨p, d, t, m, c, v⟩ (ns.drop k)))
    (fun _ _ i _ => ns.length - (intOf i).toNat)
  case atStart => exact ⟨0, false, [], Nat.zero_le _, rfl, rfl, ⟨by simp, by simp⟩, ⟨rfl, .inl ⟨rfl, rfl⟩⟩, Below.refl _ _, by show _ = _; rw [HLL.out]; simp⟩
  case round =>
    obtain ⟨k, done, pre, hk, rfl, rfl, ⟨hpl, hpf⟩, HO, HB, HR⟩ := hrel
    have hbw : Below w.heap.size w wr := HB0.out.trans (HB.out.mono (by omega))
    have hbz := HB.out.size
    have hs0 := HS0.out
    have hX : wr.heap[w.heap.size]? = some (.cells #[.string p, .string d, .string t, .int .i64 m, .int .i64 c, .int .i64 v] 69) := (HB.out.block _ (by omega)).trans HN0.out
    have k0 := cellOf (j := 0) hX rfl
    have k1 := cellOf (j := 1) hX rfl
    have k2 := cellOf (j := 2) hX rfl
    have k3 := cellOf (j := 3) hX rfl
    have k4 := cellOf (j := 4) hX rfl
    have k5 := cellOf (j := 5) hX rfl
    have HBW := hide hbw
    have HX := hide hX
    obtain ⟨qa, qc, hqv⟩ : ∃ a c, u5 = .slice a pre.length c := by
      rcases HO.out.2 with ⟨e, h⟩ | ⟨g, cap, cur, e, _⟩
      · exact ⟨none, 0, by rw [e, h]⟩
      · exact ⟨_, _, e⟩
    by_cases hlt : k < ns.length
    · have hkz : (k : Int) < (ns.length : Int) := by omega
      obtain ⟨b1, o1, p1, e1, _, _, hc1⟩ := HNS.out wr hbw
      simp only [Value.slice.injEq, Option.some.injEq, Addr.mk.injEq] at e1
      obtain ⟨⟨rfl, rfl, _⟩, _, rfl⟩ := e1
      have c0 := hc1 k hlt 0 _ rfl
      have c1 := hc1 k hlt 1 _ rfl
      have c2 := hc1 k hlt 2 _ rfl
      have c3 := hc1 k hlt 3 _ rfl
      have c4 := hc1 k hlt 4 _ rfl
      have c5 := hc1 k hlt 5 _ rfl
      rw [Nat.add_zero] at c0
      have hdrop : ns.drop k = ns[k] :: ns.drop (k + 1) := List.drop_eq_getElem_cons hlt
      have HDR := hide hdrop
      have HCY : Hid (∀ W, Below w.heap.size w W → W.cell? ⟨b, off + k * 6, none⟩ = some (.string ns[k].path) ∧ W.cell? ⟨b, off + k * 6 + 1, none⟩ = some (.string ns[k].data) ∧ W.cell? ⟨b, off + k * 6 + 2, none⟩ = some (.string ns[k].note) ∧ W.cell? ⟨b, off + k * 6 + 3, none⟩ = some (.int .i64 ns[k].made) ∧ W.cell? ⟨b, off + k * 6 + 4, none⟩ = some (.int .i64 ns[k].changed) ∧ W.cell? ⟨b, off + k * 6 + 5, none⟩ = some (.int .i64 ns[k].version)) := fun W hW => by
        obtain ⟨b2, o2, p2, e2, _, _, hc2⟩ := HNS.out W hW
        simp only [Value.slice.injEq, Option.some.injEq, Addr.mk.injEq] at e2
        obtain ⟨⟨rfl, rfl, _⟩, _, rfl⟩ := e2
        exact ⟨hc2 k hlt 0 _ rfl, hc2 k hlt 1 _ rfl, hc2 k hlt 2 _ rfl, hc2 k hlt 3 _ rfl, hc2 k hlt 4 _ rfl, hc2 k hlt 5 _ rfl⟩
      clear hc1 hbw hX hdrop
      generalize ns[k] = y at *
      obtain ⟨yp, yd, yt, ym, yc, yv⟩ := y
      simp only at c0 c1 c2 c3 c4 c5
      cases done with
      | true =>
        subst hqv
        have HR1 : Hid (LL = (pre ++ [(⟨yp, yd, yt, ym, yc, yv⟩ : Orch.Node)]) ++ ns.drop (k + 1)) := by
          show _ = _
          rw [HR.out, if_pos rfl, HDR.out]
          simp
        go_wp2_with fail
        go_region
        go_wp2_with (at_builtin; refine wpList_append_node _ rfl _ _ rfl (w.heap.size + 1) _ pre rfl (HO.out.drew.alloc _) _ yp yd yt ym yc yv rfl (heap_alloc_new _ _) (by omega) (by simp; omega) ?_; intro v' w1 ho1 hb1; have HB1 : Hid (Below (w.heap.size + 1) w0 w1) := (HB.out.drew.alloc (by simp; omega) _).trans hb1; have HO1 := hide ho1; clear ho1 hb1)
        exact ⟨⟨k + 1, true, pre ++ [⟨yp, yd, yt, ym, yc, yv⟩], by omega, by go_num, rfl, ⟨by simp; omega, by simp⟩, HO1, HB1, by show _ = _; rw [if_pos rfl]; exact HR1.out⟩, by first | (simp [intOf]; done) | (simp [intOf]; omega)⟩
      | false =>
        subst hqv
        have hpk := hpf rfl
        have HR0 : Hid (LL = pre ++ insN ⟨p, d, t, m, c, v⟩ (⟨yp, yd, yt, ym, yc, yv⟩ :: ns.drop (k + 1))) := by
          show _ = _
          rw [HR.out, HDR.out]
          rfl
        cases h2 : Op.bytesLess p.toList yp.toList with
        | false =>
          cases h3 : (p.toList == yp.toList) with
          | false =>
            have HR1 : Hid (LL = (pre ++ [(⟨yp, yd, yt, ym, yc, yv⟩ : Orch.Node)]) ++ insN ⟨p, d, t, m, c, v⟩ (ns.drop (k + 1))) := by
              show _ = _
              rw [HR0.out, insN, if_neg (show ¬ ltP p yp = true by unfold ltP; rw [h2]; simp), if_neg (show ¬ (p.toList == yp.toList) = true by rw [h3]; simp)]
              simp
            go_wp2_with fail
            go_region
            all_goals go_wp2_with (at_builtin; refine wpList_append_node _ rfl _ _ rfl (w.heap.size + 1) _ pre rfl (HO.out.drew.alloc _) _ yp yd yt ym yc yv rfl (heap_alloc_new _ _) (by omega) (by simp; omega) ?_; intro v' w1 ho1 hb1; have HB1 : Hid (Below (w.heap.size + 1) w0 w1) := (HB.out.drew.alloc (by simp; omega) _).trans hb1; have HO1 := hide ho1; clear ho1 hb1)
            all_goals exact ⟨⟨k + 1, false, pre ++ [⟨yp, yd, yt, ym, yc, yv⟩], by omega, by go_num, rfl, ⟨by simp; omega, by simp; omega⟩, HO1, HB1, by show _ = _; rw [if_neg (by simp)]; exact HR1.out⟩, by first | (simp [intOf]; done) | (simp [intOf]; omega)⟩
          | true =>
            have HR1 : Hid (LL = (pre ++ [(⟨yp, yd, yt, ym, yc, yv⟩ : Orch.Node)]) ++ ns.drop (k + 1)) := by
              show _ = _
              rw [HR0.out, insN, if_neg (show ¬ ltP p yp = true by unfold ltP; rw [h2]; simp), if_pos (show (p.toList == yp.toList) = true from h3)]
              simp
            go_wp2_with fail
            go_region
            all_goals go_wp2_with fail
            all_goals go_region
            all_goals go_wp2_with (at_builtin; refine wpList_append_node _ rfl _ _ rfl (w.heap.size + 1) _ pre rfl (HO.out.drew.drew.alloc _) _ yp yd yt ym yc yv rfl (heap_alloc_new _ _) (by omega) (by simp; omega) ?_; intro v' w1 ho1 hb1; have HB1 : Hid (Below (w.heap.size + 1) w0 w1) := (HB.out.drew.drew.alloc (by simp; omega) _).trans hb1; have HO1 := hide ho1; clear ho1 hb1)
            all_goals exact ⟨⟨k + 1, true, pre ++ [⟨yp, yd, yt, ym, yc, yv⟩], by omega, by go_num, rfl, ⟨by simp; omega, by simp⟩, HO1, HB1, by show _ = _; rw [if_pos rfl]; exact HR1.out⟩, by first | (simp [intOf]; done) | (simp [intOf]; omega)⟩
        | true =>
          have HR1 : Hid (LL = ((pre ++ [(⟨p, d, t, m, c, v⟩ : Orch.Node)]) ++ [(⟨yp, yd, yt, ym, yc, yv⟩ : Orch.Node)]) ++ ns.drop (k + 1)) := by
            show _ = _
            rw [HR0.out, insN, if_pos (show ltP p yp = true from h2)]
            simp
          have HNSc : Hid (∀ W, Below w.heap.size w W → W.cell? ⟨b, off + k * 6, none⟩ = some (.string yp) ∧ W.cell? ⟨b, off + k * 6 + 1, none⟩ = some (.string yd) ∧ W.cell? ⟨b, off + k * 6 + 2, none⟩ = some (.string yt) ∧ W.cell? ⟨b, off + k * 6 + 3, none⟩ = some (.int .i64 ym) ∧ W.cell? ⟨b, off + k * 6 + 4, none⟩ = some (.int .i64 yc) ∧ W.cell? ⟨b, off + k * 6 + 5, none⟩ = some (.int .i64 yv)) := HCY
          go_wp2_with fail
          go_region
          all_goals go_wp2_with fail
          all_goals go_region
          all_goals go_wp2_with (first
            | (at_builtin; refine wpList_append_node _ rfl _ _ rfl (w.heap.size + 1) _ pre rfl (HO.out.drew.drew.alloc _) _ p d t m c v rfl (heap_alloc_new _ _) (by omega) (by simp; omega) ?_; intro v' w1 ho1 hb1; have HB1 : Hid (Below (w.heap.size + 1) w0 w1) := (HB.out.drew.drew.alloc (by simp; omega) _).trans hb1; have HO1 := hide ho1; obtain ⟨f0, f1, f2, f3, f4, f5⟩ := HNSc.out w1 (HB0.out.trans (HB1.out.mono (by omega))); have hs1 := HB1.out.size; clear ho1 hb1)
            | (at_builtin; refine wpList_append_node _ rfl _ _ rfl (w.heap.size + 1) _ (pre ++ [⟨p, d, t, m, c, v⟩]) rfl (HO1.out.alloc _) _ yp yd yt ym yc yv rfl (heap_alloc_new _ _) (by simp; omega) (by simp; omega) ?_; intro v2 w2 ho2 hb2; have HB2 : Hid (Below (w.heap.size + 1) w0 w2) := (HB1.out.alloc (by omega) _).trans hb2; have HO2 := hide ho2; clear ho2 hb2))
          all_goals exact ⟨⟨k + 1, true, (pre ++ [⟨p, d, t, m, c, v⟩]) ++ [⟨yp, yd, yt, ym, yc, yv⟩], by omega, by go_num, rfl, ⟨by simp; omega, by simp⟩, HO2, HB2, by show _ = _; rw [if_pos rfl]; exact HR1.out⟩, by first | (simp [intOf]; done) | (simp [intOf]; omega)⟩
    · have hkz : ¬ (k : Int) < (ns.length : Int) := by omega
      have hdn : ns.drop k = [] := List.drop_eq_nil_of_le (by omega)
      subst hqv
      cases done with
      | true =>
        have HR1 : Hid (LL = pre) := by show _ = _; rw [HR.out, if_pos rfl, hdn, List.append_nil]
        clear hdn hbw hX
        go_wp2
        go_ret
        exact ⟨⟨_, rfl, by rw [HR1.out]; exact own_mono HO.out (by omega)⟩, HBW.out⟩
      | false =>
        have HR1 : Hid (LL = pre ++ [(⟨p, d, t, m, c, v⟩ : Orch.Node)]) := by show _ = _; rw [HR.out, if_neg (by simp), hdn]; rfl
        clear hdn hbw hX
        go_wp2_with (at_builtin; refine wpList_append_node _ rfl _ _ rfl (w.heap.size + 1) _ pre rfl (HO.out.alloc _) _ p d t m c v rfl (heap_alloc_new _ _) (by omega) (by simp; omega) ?_; intro v' w1 ho1 hb1; have HB1 : Hid (Below (w.heap.size + 1) w0 w1) := (HB.out.alloc (by omega) _).trans hb1; have HO1 := hide ho1; clear ho1 hb1)
        go_ret
        exact ⟨⟨_, rfl, by rw [HR1.out]; exact own_mono HO1.out (by omega)⟩, HB0.out.trans (HB1.out.mono (by omega))⟩
end Go.Proofs.YtbnoghkijgmcgaaDoor
