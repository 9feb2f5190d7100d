/- The first append onto the bytes of a constant text: it makes new memory. -/
import Derived.Test.YtlghcldiboecoaaDoorFTree
import Derived.Lib.SlBytesConst
set_option linter.unusedVariables false
namespace Go.Proofs.YtlghcldiboecoaaDoor
open Go.RowKit

section
variable (w : World)
theorem wpList_append_first {ops : Array Oper} {rest : List Oper} {o : Oper} {a : Act} {Q : Exit → Act → World → Prop} (hgd : o.guard = none) (s x : Operand)
    (ho : o.op = .call { callee := .builtin .append, args := #[s, x], argTypes := #[34, 34] }) (base g n : Nat) (xs : List UInt8) (hn : xs.length = n) (hs : a.eval s = .slice (some ⟨g, 0, none⟩) n n)
    (holds : ∀ j u, (bcells xs)[j]? = some u → w.cell? ((⟨g, 0, none⟩ : Addr).add j) = some u)
    (ad : Addr) (m c : Nat) (hm : 0 < m) (news : List Value) (hx : a.eval x = .slice (some ad) m c) (hl : news.length = m) (hnews : ∀ j u, news[j]? = some u → w.cell? (ad.add j) = some u)
    (h63 : n + m ≤ 1000000) (hbase : base ≤ w.heap.size)
    (h : ∀ v' w', w'.ownsRow base 5 1 v' (n + m) (bcells xs ++ news) → Below w.heap.size w w' → v'.ownBlock = some w.heap.size → wpList Tryd.prog ops Q rest (a.put o.dst v') w') : wpList Tryd.prog ops Q (o :: rest) a w := by
  obtain ⟨i0, hi, hz0, hz1, hz2⟩ := info_parts Tryd.info5
  have hxl : (bcells xs).length = n := by simp [bcells, hn]
  have hge := grownCap_ge w (n + m) n 5
  have hcm : grownCap w (n + m) n 5 ≤ maxLen := grownCap_le_maxLen w (n + m) n 5 (by unfold maxLen; omega)
  have hr := run_append_grow (P := Tryd.prog) w 34 o.type 5 i0 (.int .u8 0) Tryd.underlying34 hi hz0 ⟨g, 0, none⟩ n n (bcells xs) (by rw [hz1, hxl, Nat.mul_one]) holds ad m c news (by rw [hz1, hl, Nat.mul_one]) hnews (by omega) (by omega) (by rw [hz2]; exact growslice_fits (by omega) (by omega))
  have hlen : (bcells xs ++ news).length = (n + m) * 1 := by rw [List.length_append, hxl, hl, Nat.mul_one]
  refine wpList_plain hgd fun K hK => ?_
  unfold Oper.wp execOp
  simp only [ho, resolve, invoke, builtin, Sem.run_bind, Sem.run_pure, Result.andThen_ok, List.map_toArray, List.map_cons, List.map_nil, hs, hx, hr]
  refine hK _ _ (h _ _ ⟨hlen, .inr ⟨w.heap.size, _, _, rfl, hbase, heap_alloc_new w.drew _, hge, hcm, ?_, ?_⟩⟩ ⟨rfl, rfl, rfl, by simp, fun k hk => (Below.heap_alloc w.drew _ k hk : _)⟩ rfl)
  · simp only [Array.size_append, List.size_toArray, size_zeroCells, hxl, hl, Nat.mul_one]
    have : (Value.int .u8 0).cells.size = 1 := rfl
    rw [this]
    omega
  · simp only [Array.toList_append, List.append_assoc]
    rw [← List.append_assoc, ← hlen]
    exact List.take_left
end

set_option maxRecDepth 8000 in
set_option maxHeartbeats 1000000 in
/-- number.Append of one byte onto the bytes of a constant text. -/
theorem append_sign (w : World) (base g : Nat) (xs : List UInt8) (cs : Array Value) (fr : Nat × Nat) (hg : w.heap[g]? = some (.cells cs 5 fr)) (hcs : cs.toList = bcells xs) (hx : xs.length ≤ 1000) (n : Int) (hbase : base ≤ w.heap.size) :
    Calls Tryd.prog 42 #[.slice (some ⟨g, 0, none⟩) xs.length xs.length, .int .i64 n, .int .i64 1] w fun e w' => (∃ v', e = .returned v' ∧ w'.ownsRow base 5 1 v' (xs ++ Orch.be n 1).length (bcells (xs ++ Orch.be n 1))) ∧ Below w.heap.size w w' := by
  have HH : Hid (∀ W, Below w.heap.size w W → ∀ j u, (bcells xs)[j]? = some u → W.cell? ((⟨g, 0, none⟩ : Addr).add j) = some u) := fun W hW j u hu => by
    rw [Addr.add_lit, Nat.zero_add]
    refine cellOf ((hW.block g (ltOf hg)).trans hg) ?_
    rw [← Array.getElem?_toList, hcs]
    exact hu
  have HBY : Hid (IntKind.u64.wrap n / 2 ^ (8 * 0) % 256 = ((UInt8.ofNat ((n / 256 ^ 0) % 256).toNat).toNat : Int)) := byte_of n 0 (by omega)
  have HBE : Hid (Orch.be n 1 = [UInt8.ofNat ((n / 256 ^ 0) % 256).toNat]) := rfl
  clear hg hcs
  go_enter Tryd.func42, Tryd.ntmps42
  go_wp2
  go_loopw [0, 7] (fun u i wr => (i = .int .i64 0 ∧ u = .slice (some ⟨g, 0, none⟩) xs.length xs.length ∧ Hid (Below w.heap.size w wr)) ∨ (i = .int .i64 (-1) ∧ Hid (wr.ownsRow base 5 1 u (xs ++ Orch.be n 1).length (bcells (xs ++ Orch.be n 1))) ∧ Hid (Below w.heap.size w wr))) (fun _ i _ => (intOf i + 1).toNat)
  case atStart => exact .inl ⟨rfl, rfl, Below.refl _ _⟩
  case round =>
    rcases hrel with ⟨rfl, rfl, HB⟩ | ⟨rfl, HO, HB⟩
    · go_wp2_with (at_builtin; refine wpList_append_first _ rfl _ _ rfl base g xs.length xs rfl rfl ?hh ⟨wr.heap.size, 0, none⟩ 1 1 (by decide) [_] rfl rfl (cell_one_new _ _ _) ?c1 ?c2 ?_)
      case hh => exact HH.out _ (HB.out.alloc HB.out.size _)
      case c1 => omega
      case c2 => have := HB.out.size; simp; omega
      intro v' w1 hown' hb1 _
      have HB1 : Hid (Below w.heap.size w w1) := (HB.out.alloc HB.out.size _).trans (hb1.mono (by have := HB.out.size; omega))
      have HO1 : Hid (w1.ownsRow base 5 1 v' (xs ++ Orch.be n 1).length (bcells (xs ++ Orch.be n 1))) := by
        show World.ownsRow _ _ _ _ _ _ _
        have h2 := HBY.out
        simp only [Nat.mul_zero] at h2
        rw [HBE.out, List.length_append, bcells_append]
        rw [show IntKind.u64.wrap n % 256 = ((UInt8.ofNat ((n / 256 ^ 0) % 256).toNat).toNat : Int) by simpa using h2] at hown'
        exact hown'
      clear hown' hb1
      go_wp2_with fail
      go_roundw
      case rel => exact .inr ⟨by first | rfl | go_num, HO1, HB1⟩
      case measure => simp [intOf]
    · go_wp2
      go_ret
      exact ⟨⟨_, rfl, HO.out⟩, HB.out⟩
end Go.Proofs.YtlghcldiboecoaaDoor

/- The file of a tree, in the second version. -/
set_option linter.unusedVariables false
namespace Go.Proofs.YtlghcldiboecoaaDoor
open Go.RowKit

/-- What stands ahead of the sum. -/
def bodyB (n : Int) (ns : List Orch.Node) : List UInt8 := [79, 82, 67, 72] ++ Orch.be 2 1 ++ Orch.be n 8 ++ Orch.be ns.length 4 ++ ns.flatMap nb
/-- The file of a tree in the second version. -/
def fileB (n : Int) (ns : List Orch.Node) : List UInt8 := bodyB n ns ++ Orch.be (Orch.sum (bodyB n ns)) 4

theorem sign_conv (W : World) : (convert 34 34 (.slice (some ⟨W.heap.size, 0, none⟩) 4 4)).run Tryd.prog (W.alloc (.cells #[.int .u8 79, .int .u8 82, .int .u8 67, .int .u8 72] 5)) = .ok (.slice (some ⟨W.heap.size, 0, none⟩) 4 4) (W.alloc (.cells #[.int .u8 79, .int .u8 82, .int .u8 67, .int .u8 72] 5 (4, 5))) :=
  Lib.run_convert_bytes_const W 34 5 #[.int .u8 79, .int .u8 82, .int .u8 67, .int .u8 72] 4 4 Tryd.underlying34 Tryd.underlying5

theorem flat_short {l : List Orch.Node} (h : ∀ x, x ∈ l → (nb x).length ≤ 1000) : (l.flatMap nb).length ≤ l.length * 1000 := by
  induction l with
  | nil => simp
  | cons a m ih =>
    have h1 := h a (by simp)
    have h2 := ih (fun x hx => h x (by simp [hx]))
    rw [List.flatMap_cons, List.length_append, List.length_cons]
    omega

section
variable {Tabs : World → Prop}

set_option maxRecDepth 8000 in
set_option maxHeartbeats 4000000 in
theorem save_2 (U : Utf validB Tabs) (w : World) (hT : Tabs w) (hL : Table w) (hSc : Schemas w) (mx : Int) (hm : w.cell? ⟨4, 0, none⟩ = some (.int .i64 mx)) (h4 : 4 < w.heap.size) (n : Int) (hn0 : 0 ≤ n) (nsv : Value) (ns : List Orch.Node) (hns : NsAt w w.heap.size nsv ns)
    (htree : TreeP n ns) (hsz : ∀ x, x ∈ ns → x.path.size ≤ 140737488355328 ∧ x.data.size ≤ 140737488355328) (hok : ∀ x, x ∈ ns → Orch.put validB 9 [] ty2 (Orch.fields 2 x) = some (nb x) ∧ 0 < (nb x).length) :
    Calls Tryd.prog 29 #[.int .i64 2, .int .i64 n, nsv] w fun e w' => (∃ ov, e = .returned (.tuple #[ov, .int .i64 0]) ∧ w'.ownsRow w.heap.size 5 1 ov (fileB n ns).length (bcells (fileB n ns))) ∧ Below w.heap.size w w' := by
  have h1 : 1 ≤ ns.length := by obtain ⟨h, _⟩ := htree.2.1; omega
  have h32 := htree.1
  have HTR := hide (isTree_any U w hT mx hm h4 n nsv w.heap.size (Nat.le_refl _) ns hns h1 (by omega) hsz)
  have HPN : Hid (∀ W, Below w.heap.size w W → ∀ ov xs, W.ownsRow w.heap.size 5 1 ov xs.length (bcells xs) → xs.length ≤ 1000 → Calls Tryd.prog 43 #[ov, .int .i64 2, nsv] W fun e w' => (∃ ov', e = .returned (.tuple #[ov', .bool true]) ∧ w'.ownsRow w.heap.size 5 1 ov' (xs ++ ns.flatMap nb).length (bcells (xs ++ ns.flatMap nb)) ∧ Outs W w' ov ov')) := fun W hW ov xs ho hx =>
    putNodes_2 U W (U.kept (U.size hT) hW hT) (hL.below hW hL.pos) (hSc.below hW (by omega)) w.heap.size (U.size hT) hW.size ov xs ho hx nsv ns (hns.below hW) h32 hok
  obtain ⟨b, off, cap, rfl, hcap, hblt, hcells⟩ := hns
  have HTREE := hide htree
  obtain ⟨F, hF⟩ : ∃ F, F = fileB n ns := ⟨_, rfl⟩
  rw [← hF]
  have HF := hide hF
  have hlenb : (ns.flatMap nb).length ≤ 32000 := Nat.le_trans (flat_short (fun x hx => put_short (hok x hx).1)) (by omega)
  have hcv := sign_conv
  clear hT hL hSc hm hsz hok hcells htree hF
  go_enter Tryd.func29, Tryd.ntmps29
  go_wp2_with (first
    | (go_at_call 38; refine (isVersion_any _ _).mono ?_; rintro e w1 ⟨rfl, hw1⟩; have hw2 := hw1.symm; clear hw1; subst hw2)
    | (go_at_call 37; refine HTR.out.mono ?_; rintro e w1 ⟨ht, hb1⟩; obtain ⟨r, he, hr⟩ := ht; have hr' := hr.2 HTREE.out; subst hr'; subst he; have HB1 := hide hb1; clear hr hb1)
    | (go_at_call 39; refine (hasNotes_any _ _).mono ?_; rintro e w2 ⟨rfl, hw2⟩; have hw3 := hw2.symm; clear hw2; subst hw3))
  clear HTR hcv
  have hb2 := below1 w1 (.cells #[.int .u8 79, .int .u8 82, .int .u8 67, .int .u8 72] 5 (4, 5))
  have hsg := heap_alloc_new w1 (.cells #[.int .u8 79, .int .u8 82, .int .u8 67, .int .u8 72] 5 (4, 5))
  have hsz2 : (w1.alloc (.cells #[.int .u8 79, .int .u8 82, .int .u8 67, .int .u8 72] 5 (4, 5))).heap.size = w1.heap.size + 1 := by simp
  have HB2 : Hid (Below w.heap.size w (w1.alloc (.cells #[.int .u8 79, .int .u8 82, .int .u8 67, .int .u8 72] 5 (4, 5)))) := HB1.out.alloc HB1.out.size _
  have HAS := hide (append_sign (w1.alloc (.cells #[.int .u8 79, .int .u8 82, .int .u8 67, .int .u8 72] 5 (4, 5))) w.heap.size w1.heap.size [79, 82, 67, 72] _ _ hsg rfl (by decide) 2 HB2.out.size)
  clear hb2 hsg hsz2
  go_wp2_with fail
  refine HAS.out.mono ?_
  rintro e w3 ⟨⟨v1, rfl, ho1⟩, hb3⟩
  have HB3 : Hid (Below w.heap.size w w3) := HB2.out.trans (hb3.mono HB2.out.size)
  obtain ⟨X1, hX1⟩ : ∃ X1, X1 = [79, 82, 67, 72] ++ Orch.be 2 1 := ⟨_, rfl⟩
  rw [← hX1] at ho1
  have hl1 : X1.length = 5 := by rw [hX1]; rfl
  have HX1 := hide hX1
  have HL1 := hide hl1
  clear hl1
  have HO1 := hide ho1
  clear ho1 hb3 HB2 HAS hX1 HB1
  -- the number
  have HA2 := hide (append2 w3 w.heap.size v1 n 8 X1 (by omega) HO1.out HB3.out.size (by have := HL1.out; omega))
  obtain ⟨a1, c1, rfl⟩ := own_shape HO1.out
  go_wp2_with fail
  refine HA2.out.mono ?_
  rintro e w4 ⟨v2, rfl, ho2, hu2⟩
  have HLOW1 : Hid (∀ g, (Value.slice a1 X1.length c1).ownBlock = some g → w.heap.size ≤ g) := fun g h => (ownBlock_lt HO1.out h).1
  have HB4 : Hid (Below w.heap.size w w4) := HB3.out.trans (hu2.low HB3.out.size HLOW1.out)
  obtain ⟨X2, hX2⟩ : ∃ X2, X2 = X1 ++ Orch.be n 8 := ⟨_, rfl⟩
  rw [← hX2] at ho2
  have hl2 : X2.length = 13 := by rw [hX2, List.length_append, Orch.be_length, HL1.out]
  have HX2 := hide hX2
  have HL2 := hide hl2
  clear hl2
  have HO2 := hide ho2
  clear ho2 hu2 hX2 HA2 HLOW1 HO1
  -- how many nodes
  have HA3 := hide (append2 w4 w.heap.size v2 ns.length 4 X2 (by omega) HO2.out HB4.out.size (by have := HL2.out; omega))
  obtain ⟨a2, c2, rfl⟩ := own_shape HO2.out
  go_wp2_with fail
  refine HA3.out.mono ?_
  rintro e w5 ⟨v3, rfl, ho3, hu3⟩
  have HLOW2 : Hid (∀ g, (Value.slice a2 X2.length c2).ownBlock = some g → w.heap.size ≤ g) := fun g h => (ownBlock_lt HO2.out h).1
  have HB5 : Hid (Below w.heap.size w w5) := HB4.out.trans (hu3.low HB4.out.size HLOW2.out)
  obtain ⟨X3, hX3⟩ : ∃ X3, X3 = X2 ++ Orch.be (ns.length : Int) 4 := ⟨_, rfl⟩
  rw [← hX3] at ho3
  have hl3 : X3.length = 17 := by rw [hX3, List.length_append, Orch.be_length, HL2.out]
  have HX3 := hide hX3
  have HL3 := hide hl3
  clear hl3
  have HO3 := hide ho3
  clear ho3 hu3 hX3 HA3 HLOW2 HO2
  -- the nodes
  have HP4 := hide (HPN.out w5 HB5.out v3 X3 HO3.out (by have := HL3.out; omega))
  obtain ⟨a3, c3, rfl⟩ := own_shape HO3.out
  go_wp2_with fail
  refine HP4.out.mono ?_
  rintro e w6 ⟨v4, rfl, ho4, hu4⟩
  have HLOW3 : Hid (∀ g, (Value.slice a3 X3.length c3).ownBlock = some g → w.heap.size ≤ g) := fun g h => (ownBlock_lt HO3.out h).1
  have HB6 : Hid (Below w.heap.size w w6) := HB5.out.trans (hu4.low HB5.out.size HLOW3.out)
  obtain ⟨X4, hX4⟩ : ∃ X4, X4 = X3 ++ ns.flatMap nb := ⟨_, rfl⟩
  rw [← hX4] at ho4
  have hl4 : X4.length ≤ 33000 := by rw [hX4, List.length_append, HL3.out]; omega
  have hl4p : 0 < X4.length := by rw [hX4, List.length_append, HL3.out]; omega
  have HX4 := hide hX4
  have HO4 := hide ho4
  clear ho4 hu4 hX4 HP4 HLOW3 HO3 HPN
  obtain ⟨g4, c4, rfl, hc4, hbs4⟩ := own_bytes HO4.out hl4p
  obtain ⟨b4, off4, cap4, e4, _, _, hby4⟩ := hbs4
  simp only [Value.slice.injEq, Option.some.injEq, Addr.mk.injEq] at e4
  obtain ⟨⟨rfl, rfl, _⟩, _, rfl⟩ := e4
  have HSUM := hide (sum_any w6 g4 0 X4.length c4 X4 rfl (by omega) hby4)
  have HA5 := hide (append2 w6 w.heap.size (.slice (some ⟨g4, 0, none⟩) X4.length c4) (Orch.sum X4) 4 X4 (by omega) HO4.out HB6.out.size (by omega))
  clear hby4
  go_wp2_with (first
    | (go_at_call 44; refine HSUM.out.mono ?_; rintro e w7 ⟨rfl, hw7⟩; have hw8 := hw7.symm; clear hw7; subst hw8)
    | (go_at_call 42; refine HA5.out.mono ?_; rintro e w8 ⟨v5, rfl, ho5, hu5⟩; have HB8 : Hid (Below w.heap.size w w8) := HB6.out.trans (hu5.low HB6.out.size (fun g h => (ownBlock_lt HO4.out h).1)); have HO5 := hide ho5; clear ho5 hu5))
  have hFX : F = X4 ++ Orch.be (Orch.sum X4) 4 := by rw [HF.out, HX4.out, HX3.out, HX2.out, HX1.out]; rfl
  exact bodyPost_ret (v := .tuple #[v5, .int .i64 0]) (by simp [results, Tryd.results29, go_sem]) rfl ⟨⟨v5, rfl, by rw [hFX]; exact HO5.out⟩, HB8.out⟩
end
end Go.Proofs.YtlghcldiboecoaaDoor

/- A file of the second version, read. -/
set_option linter.unusedVariables false
namespace Go.Proofs.YtlghcldiboecoaaDoor
open Go.RowKit

theorem take_small (valid : ByteArray → Bool) : ∀ (k : Nat) (t : Orch.Ty) (l : List UInt8) (v : Orch.V) (r : List UInt8), Orch.take valid k t l = some (v, r) → v.s.size ≤ 200
  | 0, t, l, v, r, h => by simp [Orch.take] at h
  | k + 1, t, l, v, r, h => by
    unfold Orch.take at h
    split at h
    · split at h
      · cases h
      · split at h
        · simp only [Option.some.injEq, Prod.mk.injEq] at h
          obtain ⟨rfl, _⟩ := h
          exact Nat.zero_le _
        · cases h
    · split at h
      · cases h
      · rename_i n rest hc
        have hn : n ≤ 200 := by
          unfold Orch.count at hc
          split at hc
          · cases hc
          · split at hc
            · cases hc
            · simp only [Option.some.injEq, Prod.mk.injEq] at hc
              obtain ⟨rfl, _⟩ := hc
              omega
        split at h
        · cases h
        · split at h
          · simp only [Option.some.injEq, Prod.mk.injEq] at h
            obtain ⟨rfl, _⟩ := h
            show (rest.take n).toArray.size ≤ 200
            simp
            omega
          · cases h
    · split at h
      · cases h
      · simp only [Option.map_eq_some_iff, Orch.listV, Prod.mk.injEq] at h
        obtain ⟨_, _, rfl, _⟩ := h
        exact Nat.zero_le _
    · simp only [Option.map_eq_some_iff, Orch.listV, Prod.mk.injEq] at h
      obtain ⟨_, _, rfl, _⟩ := h
      exact Nat.zero_le _

theorem takeE_small (valid : ByteArray → Bool) (k : Nat) (t : Orch.Ty) : ∀ m i b es r, Orch.takeE (Orch.take valid k) t m i b = some (es, r) → ∀ e, e ∈ es → e.s.size ≤ 200
  | 0, i, b, es, r, h => by
    simp only [Orch.takeE, Option.some.injEq, Prod.mk.injEq] at h
    obtain ⟨rfl, _⟩ := h
    intro e he
    cases he
  | m + 1, i, b, es, r, h => by
    unfold Orch.takeE at h
    split at h
    · cases h
    · rename_i e0 rest0 h0
      split at h
      · cases h
      · rename_i es' r' h1
        simp only [Option.some.injEq, Prod.mk.injEq] at h
        obtain ⟨rfl, _⟩ := h
        intro e he
        rcases List.mem_cons.1 he with rfl | he
        · exact take_small valid k _ _ _ _ h0
        · exact takeE_small valid k t m _ _ _ _ h1 e he

theorem node_small {l : List UInt8} {v : Orch.V} {rest : List UInt8} (h : vtake validB ty2 l = some (v, rest)) : (nodeOf v).path.size ≤ 200 ∧ (nodeOf v).data.size ≤ 200 := by
  have h6 := vtake_six h
  have hall : ∀ e, e ∈ v.l → e.s.size ≤ 200 := by
    unfold vtake at h
    cases hq : Orch.take validB 9 ty2 (l.take 1000) with
    | none => rw [hq] at h; cases h
    | some vr =>
      obtain ⟨v', r'⟩ := vr
      rw [hq] at h
      simp only [Option.some.injEq, Prod.mk.injEq] at h
      obtain ⟨rfl, _⟩ := h
      have hq' : (Orch.takeE (Orch.take validB 8) ty2 6 0 (l.take 1000)).map Orch.listV = some (v', r') := hq
      simp only [Option.map_eq_some_iff] at hq'
      obtain ⟨⟨es, r⟩, he, hl⟩ := hq'
      simp only [Orch.listV, Prod.mk.injEq] at hl
      obtain ⟨rfl, _⟩ := hl
      exact takeE_small validB 8 ty2 6 0 _ _ _ he
  refine ⟨?_, ?_⟩
  · show (v.l.getD 0 _).s.size ≤ 200
    rw [List.getD_eq_getElem?_getD, List.getElem?_eq_getElem (by omega)]
    exact hall _ (List.getElem_mem _)
  · show (v.l.getD 1 _).s.size ≤ 200
    rw [List.getD_eq_getElem?_getD, List.getElem?_eq_getElem (by omega)]
    exact hall _ (List.getElem_mem _)

theorem rdN_small : ∀ (k : Nat) (l : List UInt8) (ns : List Orch.Node) (r : List UInt8), rdN k l = some (ns, r) → ns.length = k ∧ ∀ x, x ∈ ns → x.path.size ≤ 200 ∧ x.data.size ≤ 200
  | 0, l, ns, r, h => by
    simp only [rdN, Option.some.injEq, Prod.mk.injEq] at h
    obtain ⟨rfl, _⟩ := h
    exact ⟨rfl, fun x hx => by cases hx⟩
  | k + 1, l, ns, r, h => by
    unfold rdN at h
    split at h
    · cases h
    · rename_i v rest hv
      simp only [Option.map_eq_some_iff, Prod.mk.injEq] at h
      obtain ⟨⟨ms, r'⟩, hm, rfl, _⟩ := h
      obtain ⟨h1, h2⟩ := rdN_small k rest ms r' hm
      refine ⟨by simp [h1], fun x hx => ?_⟩
      rcases List.mem_cons.1 hx with rfl | hx
      · exact node_small hv
      · exact h2 x hx

set_option maxRecDepth 8000 in
set_option maxHeartbeats 1000000 in
theorem isTree_empty (w : World) (n : Int) (a : Option Addr) (c : Nat) : Calls Tryd.prog 37 #[.int .i64 n, .slice a 0 c] w fun e w' => e = .returned (.bool false) ∧ w' = w := by
  go_enter Tryd.func37, Tryd.ntmps37
  go_wp2
  go_ret
  exact ⟨rfl, rfl⟩

theorem flat_at : ∀ (ns : List Orch.Node) (i j : Nat) (hi : i < ns.length), j < 6 → (ns.flatMap ncell)[i * 6 + j]? = (ncell ns[i])[j]?
  | [], i, j, hi, _ => by simp at hi
  | a :: ns, 0, j, hi, hj => by
    rw [List.flatMap_cons, Nat.zero_mul, Nat.zero_add, List.getElem?_append_left (by simpa [ncell] using hj)]
    rfl
  | a :: ns, i + 1, j, hi, hj => by
    have h6 : (ncell a).length = 6 := rfl
    rw [List.flatMap_cons, List.getElem?_append_right (by rw [h6]; omega), h6, show (i + 1) * 6 + j - 6 = i * 6 + j by omega]
    exact flat_at ns i j (by simpa using hi) hj

theorem ns_of_own {w : World} {base : Nat} {v : Value} {ns : List Orch.Node} (h : w.ownsRow base 69 6 v ns.length (ns.flatMap ncell)) (h1 : 1 ≤ ns.length) : NsAt w w.heap.size v ns := by
  have h' := h
  rcases h.2 with ⟨rfl, h0⟩ | ⟨g, cap, cur, rfl, hb, hg, hn, _, hs, ht⟩
  · omega
  · refine ⟨g, 0, cap, rfl, hn, ltOf hg, fun i hi j u hu => ?_⟩
    have hj : j < 6 := by
      have := (List.getElem?_eq_some_iff.1 hu).1
      simpa [ncell] using this
    have h2 := h'.cells (g := g) rfl (i * 6 + j) u (by rw [flat_at ns i j hi hj]; exact hu)
    rw [Addr.add_lit, Nat.zero_add] at h2
    rw [Nat.zero_add]
    exact h2
end Go.Proofs.YtlghcldiboecoaaDoor

/- Load, of files of the second version. -/
set_option linter.unusedVariables false
namespace Go.Proofs.YtlghcldiboecoaaDoor
open Go.RowKit

theorem wos_at (w : World) (b off m cap : Nat) (l : List UInt8) (hl : l.length = m + 4) (hm : m + 4 ≤ 9223372036854775807) (hcap : m + 4 ≤ cap) (hlt : b < w.heap.size) (hb : Bytes w b off l) :
    Calls Tryd.prog 34 #[.slice (some ⟨b, off, none⟩) (m + 4) cap] w fun e w' => e = .returned (.tuple #[.slice (some ⟨b, off, none⟩) m cap, .bool (decide (Orch.uns (l.drop m) = Orch.sum (l.take m)))]) ∧ Below w.heap.size w w' := by
  have hu : Orch.uns (l.drop m) < 4294967296 := by
    have := Orch.uns_lt (l.drop m)
    rw [List.length_drop, show l.length - m = 4 by omega] at this
    exact this
  refine wos_core w b off m cap (Orch.uns (l.drop m)) (Orch.sum (l.take m)) (by omega) (by omega) hu (Orch.sum_lt _) (fun W hW => unsigned_any W b (off + m) 4 (cap - m) (l.drop m) (by rw [List.length_drop]; omega) (by omega) ?_) (fun W hW => sum_any W b off m cap (l.take m) (by rw [List.length_take]; omega) (by omega) ?_)
  · exact (Bytes.drop (fun i hi => (hW.cell (p := ⟨b, off + i, none⟩) hlt).trans (hb i hi)) m)
  · exact Bytes.take (fun i hi => (hW.cell (p := ⟨b, off + i, none⟩) hlt).trans (hb i hi)) m

/-- What a file of the second version says. -/
def LoadIs (l : List UInt8) (n : Int) (ns : List Orch.Node) : Prop :=
  4 ≤ l.length ∧ Orch.uns (l.drop (l.length - 4)) = Orch.sum (l.take (l.length - 4)) ∧ 17 ≤ l.length - 4 ∧
    ∃ c, headOf ((l.take (l.length - 4)).take 17) = some (2, n, c) ∧ rdN c ((l.take (l.length - 4)).drop 17) = some (ns, []) ∧ TreeP n ns

/-- What Load leaves. -/
def loadRes (w w' : World) (e : Ending) (l : List UInt8) : Prop :=
  (∃ n ns v, LoadIs l n ns ∧ e = .returned (.tuple #[.int .i64 2, .int .i64 n, v, .int .i64 0]) ∧ w'.ownsRow w.heap.size 69 6 v ns.length (ns.flatMap ncell)) ∨
  ((¬ ∃ n ns, LoadIs l n ns) ∧ e = .returned (.tuple #[.int .i64 0, .int .i64 0, .slice none 0 0, .int .i64 7]))

section
variable {Tabs : World → Prop}

set_option maxRecDepth 8000 in
set_option maxHeartbeats 4000000 in
theorem load_2 (U : Utf validB Tabs) (w : World) (hT : Tabs w) (hL : Table w) (hSc : Schemas w) (mx : Int) (hm : w.cell? ⟨4, 0, none⟩ = some (.int .i64 mx)) (h4 : 4 < w.heap.size) (bv : Value) (l : List UInt8) (hl : l.length ≤ 1000000) (hbv : BsAt w bv l)
    (hcov : 4 ≤ l.length → Orch.uns (l.drop (l.length - 4)) = Orch.sum (l.take (l.length - 4)) → ∀ v n c, headOf ((l.take (l.length - 4)).take 17) = some (v, n, c) → v = 2 ∧ c ≤ 32) :
    Calls Tryd.prog 28 #[bv] w fun e w' => loadRes w w' e l ∧ Below w.heap.size w w' := by
  obtain ⟨b, off, cap, rfl, hcap, hlt, hb⟩ := hbv
  by_cases hl4 : l.length < 4
  · have HW := hide (wos_short w (some ⟨b, off, none⟩) l.length cap hl4)
    have HN : Hid (¬ ∃ n ns, LoadIs l n ns) := fun ⟨n, ns, h⟩ => by have := h.1; omega
    clear hcov
    go_enter Tryd.func28, Tryd.ntmps28
    go_wp2_with (go_at_call 34; refine HW.out.mono ?_; rintro e w1 ⟨rfl, rfl⟩)
    exact bodyPost_ret (v := .tuple #[.int .i64 0, .int .i64 0, .slice none 0 0, .int .i64 7]) (by simp [results, Tryd.results28, go_sem]) rfl ⟨.inr ⟨HN.out, rfl⟩, Below.refl _ _⟩
  · obtain ⟨m, hml⟩ : ∃ m, l.length = m + 4 := ⟨l.length - 4, by omega⟩
    have hm4 : l.length - 4 = m := by omega
    have HW := hide (wos_at w b off m cap l hml (by omega) (by omega) hlt hb)
    rw [hm4] at hcov
    have HLI : Hid (∀ n ns, LoadIs l n ns ↔ 4 ≤ l.length ∧ Orch.uns (l.drop m) = Orch.sum (l.take m) ∧ 17 ≤ m ∧ ∃ c, headOf ((l.take m).take 17) = some (2, n, c) ∧ rdN c ((l.take m).drop 17) = some (ns, []) ∧ TreeP n ns) := fun n ns => by unfold LoadIs; rw [hm4]
    rw [hml]
    by_cases hsum : Orch.uns (l.drop m) = Orch.sum (l.take m)
    · rw [decide_eq_true hsum] at HW
      by_cases h17 : m < 17
      · have HN : Hid (¬ ∃ n ns, LoadIs l n ns) := fun ⟨n, ns, h⟩ => by have := ((HLI.out n ns).1 h).2.2.1; omega
        have hz17 : (m : Int) < 17 := by omega
        clear hcov hml hm4
        go_enter Tryd.func28, Tryd.ntmps28
        go_wp2_with (go_at_call 34; refine HW.out.mono ?_; rintro e w1 ⟨rfl, hb1⟩; have HB1 := hide hb1; clear hb1)
        exact bodyPost_ret (v := .tuple #[.int .i64 0, .int .i64 0, .slice none 0 0, .int .i64 7]) (by simp [results, Tryd.results28, go_sem]) rfl ⟨.inr ⟨HN.out, rfl⟩, HB1.out⟩
      · have hz17 : ¬ (m : Int) < 17 := by omega
        have hlb : (l.take m).length = m := by rw [List.length_take]; omega
        have HHB : Hid (∀ W, Below w.heap.size w W → Bytes W b off (l.take m)) := fun W hW => Bytes.take (fun i hi => (hW.cell (p := ⟨b, off + i, none⟩) hlt).trans (hb i hi)) m
        have HRH : Hid (∀ W, Below w.heap.size w W → Calls Tryd.prog 35 #[.slice (some ⟨b, off, none⟩) 17 cap] W fun e w' => (match headOf ((l.take m).take 17) with
            | none => ∃ v n c, e = .returned (.tuple #[.int .i64 v, .int .i64 n, .int .i64 c, .bool false])
            | some (v, n, c) => e = .returned (.tuple #[.int .i64 v, .int .i64 n, .int .i64 c, .bool true])) ∧ w' = W) := fun W hW => rh_any W b off cap (by omega) ((l.take m).take 17) (by rw [List.length_take, hlb]; omega) ((HHB.out W hW).take 17)
        have hc17 : (17 : Int) ≤ (cap : Int) := by omega
        have hne17 : ¬ cap = 17 := by omega
        cases hh : headOf ((l.take m).take 17) with
        | none =>
          rw [hh] at HRH
          have HN : Hid (¬ ∃ n ns, LoadIs l n ns) := fun ⟨n, ns, h⟩ => by
            obtain ⟨c, h1, _⟩ := ((HLI.out n ns).1 h).2.2.2
            rw [hh] at h1
            cases h1
          clear hcov hml hm4 hlb
          go_enter Tryd.func28, Tryd.ntmps28
          go_wp2_with (first
            | (go_at_call 34; refine HW.out.mono ?_; rintro e w1 ⟨rfl, hb1⟩; have HB1 := hide hb1; clear hb1)
            | (go_at_call 35; refine (HRH.out _ HB1.out).mono ?_; rintro e w2 ⟨⟨hv, hn, hc, rfl⟩, hw2⟩; have hw3 := hw2.symm; clear hw2; subst hw3))
          exact bodyPost_ret (v := .tuple #[.int .i64 0, .int .i64 0, .slice none 0 0, .int .i64 7]) (by simp [results, Tryd.results28, go_sem]) rfl ⟨.inr ⟨HN.out, rfl⟩, HB1.out⟩
        | some hd =>
          obtain ⟨hv, n, c⟩ := hd
          obtain ⟨rfl, hc32⟩ := hcov (by omega) hsum _ _ _ hh
          rw [hh] at HRH
          have HRN : Hid (∀ W, Below w.heap.size w W → Calls Tryd.prog 36 #[.slice (some ⟨b, off + 17, none⟩) (m - 17) (cap - 17), .int .i64 2, .int .i64 c] W fun e w' => rnRes W w' e (rdN c ((l.take m).drop 17)) ∧ Below W.heap.size W w') := fun W hW =>
            readNodes_2 U W (U.kept (U.size hT) hW hT) (hL.below hW hL.pos) (hSc.below hW (by omega)) _ ((l.take m).drop 17) (by rw [List.length_drop, hlb]; omega) ⟨b, off + 17, cap - 17, by rw [List.length_drop, hlb], by rw [List.length_drop, hlb]; omega, Nat.lt_of_lt_of_le hlt hW.size, (HHB.out W hW).drop 17⟩ c hc32
          have HIT : Hid (∀ W, Below w.heap.size w W → ∀ ns v, W.ownsRow w.heap.size 69 6 v ns.length (ns.flatMap ncell) → 1 ≤ ns.length → ns.length ≤ 32 → (∀ x, x ∈ ns → x.path.size ≤ 200 ∧ x.data.size ≤ 200) → Calls Tryd.prog 37 #[.int .i64 n, v] W fun e w' => Tells e (TreeP n ns) ∧ Below W.heap.size W w') := fun W hW ns v ho h1 h32 hs =>
            isTree_any U W (U.kept (U.size hT) hW hT) mx ((hW.cell (p := ⟨4, 0, none⟩) h4).trans hm) (Nat.lt_of_lt_of_le h4 hW.size) n v W.heap.size (Nat.le_refl _) ns (ns_of_own ho h1) h1 (by omega) (fun x hx => ⟨by have := (hs x hx).1; omega, by have := (hs x hx).2; omega⟩)
          clear hcov hml hm4 hlb hT hL hSc hm HHB
          cases hrd : rdN c ((l.take m).drop 17) with
          | none =>
            rw [hrd] at HRN
            have HN : Hid (¬ ∃ n ns, LoadIs l n ns) := fun ⟨n', ns, h⟩ => by
              obtain ⟨c', h1, h2, _⟩ := ((HLI.out n' ns).1 h).2.2.2
              rw [hh] at h1
              simp only [Option.some.injEq, Prod.mk.injEq] at h1
              obtain ⟨_, _, rfl⟩ := h1
              rw [hrd] at h2
              cases h2
            go_enter Tryd.func28, Tryd.ntmps28
            go_wp2_with (first
              | (go_at_call 34; refine HW.out.mono ?_; rintro e w1 ⟨rfl, hb1⟩; have HB1 := hide hb1; clear hb1)
              | (go_at_call 35; refine (HRH.out _ HB1.out).mono ?_; rintro e w2 ⟨rfl, hw2⟩; have hw3 := hw2.symm; clear hw2; subst hw3)
              | (go_at_call 36; refine (HRN.out _ HB1.out).mono ?_; rintro e w3 ⟨he, hb3⟩; have he' : e = .returned (.tuple #[.slice none 0 0, .bool false]) := he; subst he'; have HB3 : Hid (Below w.heap.size w w3) := HB1.out.trans (hb3.mono HB1.out.size); clear he hb3))
            exact bodyPost_ret (v := .tuple #[.int .i64 0, .int .i64 0, .slice none 0 0, .int .i64 7]) (by simp [results, Tryd.results28, go_sem]) rfl ⟨.inr ⟨HN.out, rfl⟩, HB3.out⟩
          | some q =>
            obtain ⟨ns, rest⟩ := q
            obtain ⟨hnc, hnsz⟩ := rdN_small _ _ _ _ hrd
            rw [hrd] at HRN
            have HNSZ := hide hnsz
            have HNC := hide hnc
            have h32n : ns.length ≤ 32 := by omega
            clear hnsz hnc
            by_cases hrest : rest.length = 0
            · obtain rfl : rest = [] := List.length_eq_zero_iff.1 hrest
              have HRN' : Hid (∀ W, Below w.heap.size w W → Calls Tryd.prog 36 #[.slice (some ⟨b, off + 17, none⟩) (m - 17) (cap - 17), .int .i64 2, .int .i64 c] W fun e w' => (∃ v, e = .returned (.tuple #[v, .bool true]) ∧ w'.ownsRow W.heap.size 69 6 v ns.length (ns.flatMap ncell)) ∧ Below W.heap.size W w') := HRN
              have HYES : Hid (TreeP n ns → LoadIs l n ns) := fun ht => (HLI.out n ns).2 ⟨by omega, hsum, by omega, c, hh, hrd, ht⟩
              have HNO : Hid (¬ TreeP n ns → ¬ ∃ n ns, LoadIs l n ns) := fun ht ⟨n', ns', h⟩ => by
                obtain ⟨c', h1, h2, h3⟩ := ((HLI.out n' ns').1 h).2.2.2
                rw [hh] at h1
                simp only [Option.some.injEq, Prod.mk.injEq] at h1
                obtain ⟨_, rfl, rfl⟩ := h1
                rw [hrd] at h2
                simp only [Option.some.injEq, Prod.mk.injEq, and_true] at h2
                obtain rfl := h2
                exact ht h3
              clear HRN hrest HLI
              by_cases hn0 : ns.length = 0
              · have HF : Hid (¬ TreeP n ns) := fun h => by obtain ⟨h', _⟩ := h.2.1; omega
                have HNN := hide (HNO.out HF.out)
                have HS : Hid (∀ (W : World) B v, W.ownsRow B 69 6 v ns.length (ns.flatMap ncell) → ∃ a c, v = .slice a 0 c) := fun W B v h => by
                  rcases h.2 with ⟨e, _⟩ | ⟨g, cap, cur, e, _⟩
                  · exact ⟨_, _, e⟩
                  · exact ⟨_, _, by rw [e, hn0]⟩
                go_enter Tryd.func28, Tryd.ntmps28
                go_wp2_with (first
                  | (go_at_call 34; refine HW.out.mono ?_; rintro e w1 ⟨rfl, hb1⟩; have HB1 := hide hb1; clear hb1)
                  | (go_at_call 35; refine (HRH.out _ HB1.out).mono ?_; rintro e w2 ⟨rfl, hw2⟩; have hw3 := hw2.symm; clear hw2; subst hw3)
                  | (go_at_call 36; refine (HRN'.out _ HB1.out).mono ?_; rintro e w3 ⟨⟨v, rfl, ho⟩, hb3⟩; obtain ⟨va, vc, rfl⟩ := HS.out _ _ _ ho; have HB3 : Hid (Below w.heap.size w w3) := HB1.out.trans (hb3.mono HB1.out.size); clear ho hb3)
                  | (go_at_call 37; refine (isTree_empty _ _ _ _).mono ?_; rintro e w4 ⟨rfl, hw4⟩; have hw5 := hw4.symm; clear hw4; subst hw5))
                exact bodyPost_ret (v := .tuple #[.int .i64 0, .int .i64 0, .slice none 0 0, .int .i64 7]) (by simp [results, Tryd.results28, go_sem]) rfl ⟨.inr ⟨HNN.out, rfl⟩, HB3.out⟩
              · go_enter Tryd.func28, Tryd.ntmps28
                go_wp2_with (first
                  | (go_at_call 34; refine HW.out.mono ?_; rintro e w1 ⟨rfl, hb1⟩; have HB1 := hide hb1; clear hb1)
                  | (go_at_call 35; refine (HRH.out _ HB1.out).mono ?_; rintro e w2 ⟨rfl, hw2⟩; have hw3 := hw2.symm; clear hw2; subst hw3)
                  | (go_at_call 36; refine (HRN'.out _ HB1.out).mono ?_; rintro e w3 ⟨⟨v, rfl, ho⟩, hb3⟩; have HO3 := hide (own_mono ho HB1.out.size); have HB3 : Hid (Below w.heap.size w w3) := HB1.out.trans (hb3.mono HB1.out.size); clear ho hb3))
                refine (HIT.out _ HB3.out ns v HO3.out (by omega) h32n HNSZ.out).mono ?_
                rintro e w4 ⟨htell, hb4⟩
                obtain ⟨r, he, hr⟩ := htell
                have HR := hide hr
                have HO4 := hide (ownsRow_below HO3.out hb4)
                have HB4 : Hid (Below w.heap.size w w4) := HB3.out.trans (hb4.mono HB3.out.size)
                clear hb4 hr
                cases r with
                | true =>
                  subst he
                  have HL2 := hide (HYES.out (HR.out.1 rfl))
                  clear HR
                  go_wp2
                  exact bodyPost_ret (v := .tuple #[.int .i64 2, .int .i64 n, v, .int .i64 0]) (by simp [results, Tryd.results28, go_sem]) rfl ⟨.inl ⟨n, ns, v, HL2.out, rfl, HO4.out⟩, HB4.out⟩
                | false =>
                  subst he
                  have HNN := hide (HNO.out (fun h => by have := HR.out.2 h; cases this))
                  clear HR
                  go_wp2
                  exact bodyPost_ret (v := .tuple #[.int .i64 0, .int .i64 0, .slice none 0 0, .int .i64 7]) (by simp [results, Tryd.results28, go_sem]) rfl ⟨.inr ⟨HNN.out, rfl⟩, HB4.out⟩
            · have HRN' : Hid (∀ W, Below w.heap.size w W → Calls Tryd.prog 36 #[.slice (some ⟨b, off + 17, none⟩) (m - 17) (cap - 17), .int .i64 2, .int .i64 c] W fun e w' => (∃ v, e = .returned (.tuple #[v, .bool false])) ∧ Below W.heap.size W w') := fun W hW => (HRN.out W hW).mono (by
                rintro e w' ⟨⟨v, rfl, _⟩, hb'⟩
                exact ⟨⟨v, by rw [decide_eq_false hrest]⟩, hb'⟩)
              have HN : Hid (¬ ∃ n ns, LoadIs l n ns) := fun ⟨n', ns', h⟩ => by
                obtain ⟨c', h1, h2, _⟩ := ((HLI.out n' ns').1 h).2.2.2
                rw [hh] at h1
                simp only [Option.some.injEq, Prod.mk.injEq] at h1
                obtain ⟨_, _, rfl⟩ := h1
                rw [hrd] at h2
                simp only [Option.some.injEq, Prod.mk.injEq] at h2
                exact hrest (by rw [h2.2]; rfl)
              clear HRN HLI
              go_enter Tryd.func28, Tryd.ntmps28
              go_wp2_with (first
                | (go_at_call 34; refine HW.out.mono ?_; rintro e w1 ⟨rfl, hb1⟩; have HB1 := hide hb1; clear hb1)
                | (go_at_call 35; refine (HRH.out _ HB1.out).mono ?_; rintro e w2 ⟨rfl, hw2⟩; have hw3 := hw2.symm; clear hw2; subst hw3)
                | (go_at_call 36; refine (HRN'.out _ HB1.out).mono ?_; rintro e w3 ⟨⟨v, rfl⟩, hb3⟩; have HB3 : Hid (Below w.heap.size w w3) := HB1.out.trans (hb3.mono HB1.out.size); clear hb3))
              exact bodyPost_ret (v := .tuple #[.int .i64 0, .int .i64 0, .slice none 0 0, .int .i64 7]) (by simp [results, Tryd.results28, go_sem]) rfl ⟨.inr ⟨HN.out, rfl⟩, HB3.out⟩
    · rw [decide_eq_false hsum] at HW
      have HN : Hid (¬ ∃ n ns, LoadIs l n ns) := fun ⟨n, ns, h⟩ => hsum ((HLI.out n ns).1 h).2.1
      clear hcov hml hm4
      go_enter Tryd.func28, Tryd.ntmps28
      go_wp2_with (go_at_call 34; refine HW.out.mono ?_; rintro e w1 ⟨rfl, hb1⟩; have HB1 := hide hb1; clear hb1)
      exact bodyPost_ret (v := .tuple #[.int .i64 0, .int .i64 0, .slice none 0 0, .int .i64 7]) (by simp [results, Tryd.results28, go_sem]) rfl ⟨.inr ⟨HN.out, rfl⟩, HB1.out⟩
end
end Go.Proofs.YtlghcldiboecoaaDoor

/- Save, Load and Upgrade of the package orchard; whether two lists of nodes are the same. -/
set_option linter.unusedVariables false
namespace Go.Proofs.YtlghcldiboecoaaDoor
open Go.RowKit

set_option maxRecDepth 8000 in
set_option maxHeartbeats 1000000 in
theorem oSave_of (w : World) (ver n : Int) (nsv : Value) (Q : Value → World → Prop) (HC : Hid (Calls Tryd.prog 29 #[.int .i64 ver, .int .i64 n, nsv] w fun e w' => ∃ ov, e = .returned (.tuple #[ov, .int .i64 0]) ∧ Q ov w')) :
    Calls Tryd.prog 26 #[.int .i64 ver, .int .i64 n, nsv] w fun e w' => ∃ ov, e = .returned (.tuple #[ov, .int .i64 0]) ∧ Q ov w' := by
  go_enter Tryd.func26, Tryd.ntmps26
  go_wp2_with (go_at_call 29; refine HC.out.mono ?_; rintro e w1 ⟨ov, rfl, hq⟩; have HQ := hide hq; clear hq)
  exact bodyPost_ret (v := .tuple #[ov, .int .i64 0]) (by simp [results, Tryd.results26, go_sem]) rfl ⟨ov, rfl, HQ.out⟩

set_option maxRecDepth 8000 in
set_option maxHeartbeats 1000000 in
theorem oLoad_of (w : World) (bv : Value) (Q : Int → Int → Value → Int → World → Prop) (HC : Hid (Calls Tryd.prog 28 #[bv] w fun e w' => ∃ a b v c, e = .returned (.tuple #[.int .i64 a, .int .i64 b, v, .int .i64 c]) ∧ Q a b v c w')) :
    Calls Tryd.prog 15 #[bv] w fun e w' => ∃ a b v c, e = .returned (.tuple #[.int .i64 a, .int .i64 b, v, .int .i64 c]) ∧ Q a b v c w' := by
  go_enter Tryd.func15, Tryd.ntmps15
  go_wp2_with (go_at_call 28; refine HC.out.mono ?_; rintro e w1 ⟨a, b, v, c, rfl, hq⟩; have HQ := hide hq; clear hq)
  exact bodyPost_ret (v := .tuple #[.int .i64 a, .int .i64 b, v, .int .i64 c]) (by simp [results, Tryd.results15, go_sem]) rfl ⟨a, b, v, c, rfl, HQ.out⟩

set_option maxRecDepth 8000 in
set_option maxHeartbeats 1000000 in
theorem upgrade_bad (w : World) (bv : Value) (Q : World → Prop) (HC : Hid (Calls Tryd.prog 28 #[bv] w fun e w' => e = .returned (.tuple #[.int .i64 0, .int .i64 0, .slice none 0 0, .int .i64 7]) ∧ Q w')) :
    Calls Tryd.prog 14 #[bv] w fun e w' => e = .returned (.tuple #[.slice none 0 0, .int .i64 7]) ∧ Q w' := by
  go_enter Tryd.func14, Tryd.ntmps14
  go_wp2_with (go_at_call 28; refine HC.out.mono ?_; rintro e w1 ⟨rfl, hq⟩; have HQ := hide hq; clear hq)
  exact bodyPost_ret (v := .tuple #[.slice none 0 0, .int .i64 7]) (by simp [results, Tryd.results14, go_sem]) rfl ⟨rfl, HQ.out⟩

set_option maxRecDepth 8000 in
set_option maxHeartbeats 2000000 in
theorem sameNodes_same (w : World) (va vb : Value) (ns : List Orch.Node) (ha : NsAt w w.heap.size va ns) (hb : NsAt w w.heap.size vb ns) (hlen : ns.length ≤ 1000000) :
    Calls Tryd.prog 27 #[va, vb] w fun e w' => e = .returned (.bool true) ∧ Below w.heap.size w w' := by
  have HA : Hid (∀ W, Below w.heap.size w W → NsAt W w.heap.size va ns) := fun W h => ha.below h
  have HB' : Hid (∀ W, Below w.heap.size w W → NsAt W w.heap.size vb ns) := fun W h => hb.below h
  obtain ⟨b, off, cap, rfl, hcap, hblt, _⟩ := ha
  obtain ⟨b', off', cap', rfl, hcap', hblt', _⟩ := hb
  go_enter Tryd.func27, Tryd.ntmps27
  go_wp2_with fail
  go_loopw [5] (fun i wr => ∃ k : Nat, k ≤ ns.length ∧ i = .int .i64 k ∧ Hid (Below w.heap.size w wr)) (fun i _ => ns.length - (intOf i).toNat)
  case atStart => exact ⟨0, Nat.zero_le _, rfl, Below.refl _ _⟩
  case round =>
    obtain ⟨k, hk, rfl, HB⟩ := hrel
    by_cases hlt : k < ns.length
    · have hkz : (k : Int) < (ns.length : Int) := by omega
      obtain ⟨b1, o1, p1, e1, _, _, hc1⟩ := HA.out wr HB.out
      obtain ⟨b2, o2, p2, e2, _, _, hc2⟩ := HB'.out wr HB.out
      simp only [Value.slice.injEq, Option.some.injEq, Addr.mk.injEq] at e1 e2
      obtain ⟨⟨rfl, rfl, _⟩, _, rfl⟩ := e1
      obtain ⟨⟨rfl, rfl, _⟩, _, rfl⟩ := e2
      have c0 := hc1 k hlt 0 _ rfl
      have c1 := hc1 k hlt 1 _ rfl
      have c2 := hc1 k hlt 2 _ rfl
      have c3 := hc1 k hlt 3 _ rfl
      have c4 := hc1 k hlt 4 _ rfl
      have c5 := hc1 k hlt 5 _ rfl
      have d0 := hc2 k hlt 0 _ rfl
      have d1 := hc2 k hlt 1 _ rfl
      have d2 := hc2 k hlt 2 _ rfl
      have d3 := hc2 k hlt 3 _ rfl
      have d4 := hc2 k hlt 4 _ rfl
      have d5 := hc2 k hlt 5 _ rfl
      rw [Nat.add_zero] at c0 d0
      clear hc1 hc2
      generalize ns[k] = x at *
      obtain ⟨xp, xd, xt, xm, xch, xv⟩ := x
      simp only at c0 c1 c2 c3 c4 c5 d0 d1 d2 d3 d4 d5
      go_wp2_with fail
      go_region
      all_goals go_wp2_with fail
      all_goals go_roundw
      all_goals first
        | exact ⟨k + 1, by omega, by go_num, HB.out.drew⟩
        | (simp [intOf]; done)
        | (simp [intOf]; omega)
    · have hkz : ¬ (k : Int) < (ns.length : Int) := by omega
      go_wp2
      go_ret
      exact ⟨rfl, HB.out⟩
end Go.Proofs.YtlghcldiboecoaaDoor
