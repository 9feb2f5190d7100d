/- The first append onto the bytes of a constant text: it makes new memory. -/
import Derived.Test.YtbnoghkijgmcgaaDoorFTree
import Derived.Lib.SlBytesConst
set_option linter.unusedVariables false
namespace Go.Proofs.YtbnoghkijgmcgaaDoor
open Go.RowKit

section
variable (w : World)
theorem wpList_append_first {ops : Array Oper} {rest : List Oper} {o : Oper} {a : Act} {Q : Exit → Act → World → Prop} (hgd : o.guard = none) (s x : Operand)
    (ho : o.op = .call { callee := .builtin .append, args := #[s, x], argTypes := #[34, 34] }) (base g n : Nat) (xs : List UInt8) (hn : xs.length = n) (hs : a.eval s = .slice (some ⟨g, 0, none⟩) n n)
    (holds : ∀ j u, (bcells xs)[j]? = some u → w.cell? ((⟨g, 0, none⟩ : Addr).add j) = some u)
    (ad : Addr) (m c : Nat) (hm : 0 < m) (news : List Value) (hx : a.eval x = .slice (some ad) m c) (hl : news.length = m) (hnews : ∀ j u, news[j]? = some u → w.cell? (ad.add j) = some u)
    (h63 : n + m ≤ 1000000) (hbase : base ≤ w.heap.size)
    (h : ∀ v' w', w'.ownsRow base 5 1 v' (n + m) (bcells xs ++ news) → Below w.heap.size w w' → v'.ownBlock = some w.heap.size → wpList Tryd.prog ops Q rest (a.put o.dst v') w') : wpList Tryd.prog ops Q (o :: rest) a w := by
  obtain ⟨i0, hi, hz0, hz1, hz2⟩ := info_parts Tryd.info5
  have hxl : (bcells xs).length = n := by simp [bcells, hn]
  have hge := grownCap_ge w (n + m) n 5
  have hcm : grownCap w (n + m) n 5 ≤ maxLen := grownCap_le_maxLen w (n + m) n 5 (by unfold maxLen; omega)
  have hr := run_append_grow (P := Tryd.prog) w 34 o.type 5 i0 (.int .u8 0) Tryd.underlying34 hi hz0 ⟨g, 0, none⟩ n n (bcells xs) (by rw [hz1, hxl, Nat.mul_one]) holds ad m c news (by rw [hz1, hl, Nat.mul_one]) hnews (by omega) (by omega) (by rw [hz2]; exact growslice_fits (by omega) (by omega))
  have hlen : (bcells xs ++ news).length = (n + m) * 1 := by rw [List.length_append, hxl, hl, Nat.mul_one]
  refine wpList_plain hgd fun K hK => ?_
  unfold Oper.wp execOp
  simp only [ho, resolve, invoke, builtin, Sem.run_bind, Sem.run_pure, Result.andThen_ok, List.map_toArray, List.map_cons, List.map_nil, hs, hx, hr]
  refine hK _ _ (h _ _ ⟨hlen, .inr ⟨w.heap.size, _, _, rfl, hbase, heap_alloc_new w.drew _, hge, hcm, ?_, ?_⟩⟩ ⟨rfl, rfl, rfl, by simp, fun k hk => (Below.heap_alloc w.drew _ k hk : _)⟩ rfl)
  · simp only [Array.size_append, List.size_toArray, size_zeroCells, hxl, hl, Nat.mul_one]
    have : (Value.int .u8 0).cells.size = 1 := rfl
    rw [this]
    omega
  · simp only [Array.toList_append, List.append_assoc]
    rw [← List.append_assoc, ← hlen]
    exact List.take_left
end

set_option maxRecDepth 8000 in
set_option maxHeartbeats 1000000 in
/-- number.Append of one byte onto the bytes of a constant text. -/
theorem append_sign (w : World) (base g : Nat) (xs : List UInt8) (cs : Array Value) (fr : Nat × Nat) (hg : w.heap[g]? = some (.cells cs 5 fr)) (hcs : cs.toList = bcells xs) (hx : xs.length ≤ 1000) (n : Int) (hbase : base ≤ w.heap.size) :
    Calls Tryd.prog 42 #[.slice (some ⟨g, 0, none⟩) xs.length xs.length, .int .i64 n, .int .i64 1] w fun e w' => (∃ v', e = .returned v' ∧ w'.ownsRow base 5 1 v' (xs ++ Orch.be n 1).length (bcells (xs ++ Orch.be n 1))) ∧ Below w.heap.size w w' := by
  have HH : Hid (∀ W, Below w.heap.size w W → ∀ j u, (bcells xs)[j]? = some u → W.cell? ((⟨g, 0, none⟩ : Addr).add j) = some u) := fun W hW j u hu => by
    rw [Addr.add_lit, Nat.zero_add]
    refine cellOf ((hW.block g (ltOf hg)).trans hg) ?_
    rw [← Array.getElem?_toList, hcs]
    exact hu
  have HBY : Hid (IntKind.u64.wrap n / 2 ^ (8 * 0) % 256 = ((UInt8.ofNat ((n / 256 ^ 0) % 256).toNat).toNat : Int)) := byte_of n 0 (by omega)
  have HBE : Hid (Orch.be n 1 = [UInt8.ofNat ((n / 256 ^ 0) % 256).toNat]) := rfl
  clear hg hcs
  go_enter Tryd.func42, Tryd.ntmps42
  go_wp2
  go_loopw [0, 7] (fun u i wr => (i = .int .i64 0 ∧ u = .slice (some ⟨g, 0, none⟩) xs.length xs.length ∧ Hid (Below w.heap.size w wr)) ∨ (i = .int .i64 (-1) ∧ Hid (wr.ownsRow base 5 1 u (xs ++ Orch.be n 1).length (bcells (xs ++ Orch.be n 1))) ∧ Hid (Below w.heap.size w wr))) (fun _ i _ => (intOf i + 1).toNat)
  case atStart => exact .inl ⟨rfl, rfl, Below.refl _ _⟩
  case round =>
    rcases hrel with ⟨rfl, rfl, HB⟩ | ⟨rfl, HO, HB⟩
    · go_wp2_with (at_builtin; refine wpList_append_first _ rfl _ _ rfl base g xs.length xs rfl rfl ?hh ⟨wr.heap.size, 0, none⟩ 1 1 (by decide) [_] rfl rfl (cell_one_new _ _ _) ?c1 ?c2 ?_)
      case hh => exact HH.out _ (HB.out.alloc HB.out.size _)
      case c1 => omega
      case c2 => have := HB.out.size; simp; omega
      intro v' w1 hown' hb1 _
      have HB1 : Hid (Below w.heap.size w w1) := (HB.out.alloc HB.out.size _).trans (hb1.mono (by have := HB.out.size; omega))
      have HO1 : Hid (w1.ownsRow base 5 1 v' (xs ++ Orch.be n 1).length (bcells (xs ++ Orch.be n 1))) := by
        show World.ownsRow _ _ _ _ _ _ _
        have h2 := HBY.out
        simp only [Nat.mul_zero, Nat.pow_zero, Int.ediv_one] at h2
        rw [HBE.out, List.length_append, bcells_append]
        rw [show IntKind.u64.wrap n % 256 = ((UInt8.ofNat ((n / 256 ^ 0) % 256).toNat).toNat : Int) by simpa using h2] at hown'
        exact hown'
      clear hown' hb1
      go_wp2_with fail
      go_roundw
      case rel => exact .inr ⟨by first | rfl | go_num, HO1, HB1⟩
      case measure => simp [intOf]
    · go_wp2
      go_ret
      exact ⟨⟨_, rfl, HO.out⟩, HB.out⟩
end Go.Proofs.YtbnoghkijgmcgaaDoor
