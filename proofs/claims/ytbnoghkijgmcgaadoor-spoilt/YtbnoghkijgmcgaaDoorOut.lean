/- What is appended to, and where it lies. -/
import Derived.Test.YtbnoghkijgmcgaaDoorGrow
import Derived.Lib.AppendStr
import Derived.Maps.AppendAt
set_option linter.unusedVariables false
namespace Go.Proofs.YtbnoghkijgmcgaaDoor
open Go.RowKit

/-- From w to w' nothing but v's own row has turned; what v has become lies there, or in new memory. -/
structure Outs (w w' : World) (v v' : Value) : Prop where
  grown : w.grownBy w' v.ownBlock
  lies : v'.ownBlock = v.ownBlock ∨ ∃ g, v'.ownBlock = some g ∧ w.heap.size ≤ g

theorem Outs.refl (w : World) (v : Value) : Outs w w v v := ⟨⟨rfl, rfl, rfl, Nat.le_refl _, fun _ _ _ => rfl⟩, Or.inl rfl⟩

theorem Outs.trans {w0 w1 w2 : World} {a b c : Value} (h : Outs w0 w1 a b) (k : Outs w1 w2 b c) : Outs w0 w2 a c := by
  have s0 := h.grown.size
  refine ⟨⟨k.grown.os.trans h.grown.os, k.grown.tape.trans h.grown.tape, k.grown.output.trans h.grown.output, Nat.le_trans s0 k.grown.size, fun i hi hne => ?_⟩, ?_⟩
  · rw [k.grown.block i (by omega) ?_, h.grown.block i hi hne]
    intro e
    rcases h.lies with hl | ⟨g, hl, hg⟩
    · rw [hl] at e; exact hne e
    · rw [hl] at e
      simp only [Option.some.injEq] at e
      omega
  · rcases k.lies with kl | ⟨g, kl, hg⟩
    · rw [kl]; exact h.lies
    · exact Or.inr ⟨g, kl, by omega⟩

/-- A step that turns nothing old. -/
theorem Outs.below {w0 w1 w2 : World} {a b : Value} (h : Outs w0 w1 a b) (k : Below w1.heap.size w1 w2) : Outs w0 w2 a b :=
  ⟨⟨k.os.trans h.grown.os, k.tape.trans h.grown.tape, k.output.trans h.grown.output, Nat.le_trans h.grown.size k.size, fun i hi hne => (k.block i (Nat.lt_of_lt_of_le hi h.grown.size)).trans (h.grown.block i hi hne)⟩, h.lies⟩

theorem Outs.from {w0 w1 w2 : World} {a b : Value} (k : Below w0.heap.size w0 w1) (h : Outs w1 w2 a b) : Outs w0 w2 a b :=
  ⟨⟨h.grown.os.trans k.os, h.grown.tape.trans k.tape, h.grown.output.trans k.output, Nat.le_trans k.size h.grown.size, fun i hi hne => (h.grown.block i (Nat.lt_of_lt_of_le hi k.size) hne).trans (k.block i hi)⟩, by
    rcases h.lies with hl | ⟨g, hl, hg⟩
    · exact Or.inl hl
    · exact Or.inr ⟨g, hl, Nat.le_trans k.size hg⟩⟩

/-- What lies below the row's base is as it was. -/
theorem Outs.low {w0 w1 : World} {a b : Value} (h : Outs w0 w1 a b) {base : Nat} (hb : base ≤ w0.heap.size) (ha : ∀ g, a.ownBlock = some g → base ≤ g) : Below base w0 w1 :=
  ⟨h.grown.os, h.grown.tape, h.grown.output, h.grown.size, fun k hk => h.grown.block k (by omega) (fun e => by have := ha k e.symm; omega)⟩

/-- A block that is not the row's stays. -/
theorem Outs.keep {w0 w1 : World} {a b : Value} (h : Outs w0 w1 a b) {g : Nat} {o : Obj} (hg : w0.heap[g]? = some o) (hne : a.ownBlock ≠ some g) : w1.heap[g]? = some o :=
  (h.grown.block g (ltOf hg) (fun e => hne e.symm)).trans hg

section
variable {P : Program} (w : World)
theorem run_append_own_string_at (base : Nat) (t u ty e : TypeId) (i : TypeInfo) (ht : P.underlying t = some (.slice e)) (hu : P.underlying u = some .string) (hi : P.info? e = some i) (hz : i.zero = some (.int .u8 0))
    (hsize : i.size = 1) (hby : i.bytes = 1)
    (v : Value) (n : Nat) (hn : 0 < n) (xs : List Value) (hown : w.ownsRow base e 1 v n xs) (s : ByteArray)
    (h63 : n + s.size ≤ maxLen) (hbytes : n + s.size ≤ 140737488355328) (hbase : base ≤ w.heap.size) :
    ∃ v' w', (Builtin.append_ #[t, u] ty #[v, .string s]).run P w = .ok v' w' ∧ w'.ownsRow base e 1 v' (n + s.size) (xs ++ Lib.strCells s) ∧ Outs w w' v v' := by
  obtain ⟨v', w', hr, h2, h3, _⟩ := Lib.run_append_own_string (P := P) w base t u ty e i ht hu hi hz hsize hby v n xs hown s h63 hbytes hbase
  refine ⟨v', w', hr, h2, h3, ?_⟩
  have hsmall : n + s.size ≤ 9223372036854775807 := by simp only [maxLen] at h63; omega
  rcases hown.2 with ⟨_, h0⟩ | ⟨g, cap, cur, rfl, hbg, hg, hnc, hcm, hcs, htake⟩
  · omega
  · by_cases hroom : n + s.size ≤ cap
    · have hx := Lib.run_append_room_string (P := P) w t u ty e i ht hu hi hsize g n cap cur hg s hroom (by omega)
      rw [hr] at hx
      injection hx with hv hw
      rw [hv]
      exact Or.inl rfl
    · have holds : ∀ j u, xs[j]? = some u → w.cell? ((⟨g, 0, none⟩ : Addr).add j) = some u := hown.cells (g := g) rfl
      have hx := Lib.run_append_grow_string (P := P) w t u ty e i (.int .u8 0) ht hu hi hz ⟨g, 0, none⟩ n cap xs (by rw [hsize]; exact hown.1) holds s (by omega) (by omega) (by rw [hby]; exact growslice_fits (by omega) (by omega))
      rw [hr] at hx
      injection hx with hv hw
      rw [hv]
      exact Or.inr ⟨w.heap.size, rfl, Nat.le_refl _⟩

theorem wpList_append_own_string_at {ops : Array Oper} {rest : List Oper} {o : Oper} {a : Act} {Q : Exit → Act → World → Prop} (hgd : o.guard = none) (sl x : Operand) (t u : TypeId)
    (ho : o.op = .call { callee := .builtin .append, args := #[sl, x], argTypes := #[t, u] })
    (base : Nat) (e : TypeId) (i : TypeInfo) (ht : P.underlying t = some (.slice e)) (hu : P.underlying u = some .string) (hi : P.info? e = some i) (hz : i.zero = some (.int .u8 0))
    (hsize : i.size = 1) (hby : i.bytes = 1)
    (v : Value) (n : Nat) (hn : 0 < n) (xs : List Value) (hs : a.eval sl = v) (hown : w.ownsRow base e 1 v n xs) (s : ByteArray) (hx : a.eval x = .string s)
    (h63 : n + s.size ≤ maxLen) (hbytes : n + s.size ≤ 140737488355328) (hbase : base ≤ w.heap.size)
    (h : ∀ v' w', w'.ownsRow base e 1 v' (n + s.size) (xs ++ Lib.strCells s) → Outs w w' v v' → wpList P ops Q rest (a.put o.dst v') w') : wpList P ops Q (o :: rest) a w := by
  refine wpList_plain hgd fun K hK => ?_
  obtain ⟨v', w', hr, h2, h3⟩ := run_append_own_string_at (P := P) w base t u o.type e i ht hu hi hz hsize hby v n hn xs hown s h63 hbytes hbase
  unfold Oper.wp execOp
  simp only [ho, resolve, invoke, builtin, Sem.run_bind, Sem.run_pure, Result.andThen_ok, List.map_toArray, List.map_cons, List.map_nil, hs, hx, hr]
  exact hK _ _ (h v' w' h2 h3)
end

set_option maxHeartbeats 400000 in
/-- number.Append, and where the slice lies. -/
theorem append2 (w : World) (base : Nat) (v : Value) (n : Int) (size : Nat) (xs : List UInt8) (hs : size ≤ 8)
    (hown : w.ownsRow base 5 1 v xs.length (bcells xs)) (hbase : base ≤ w.heap.size) (hx : xs.length ≤ 100000) :
    Calls Tryd.prog 42 #[v, .int .i64 n, .int .i64 size] w fun e w' => ∃ v', e = .returned v' ∧ w'.ownsRow base 5 1 v' (xs ++ Orch.be n size).length (bcells (xs ++ Orch.be n size)) ∧ Outs w w' v v' := by
  obtain ⟨i0, hi, hz0, hz1, hz2⟩ := info_parts Tryd.info5
  go_enter Tryd.func42, Tryd.ntmps42
  go_wp2
  go_loopw [0, 7] (fun u i wr => ∃ j : Nat, j ≤ size ∧ i = .int .i64 ((j : Int) - 1) ∧ Hid (wr.ownsRow base 5 1 u (xs ++ (Orch.be n size).take (size - j)).length (bcells (xs ++ (Orch.be n size).take (size - j)))) ∧ Hid (Outs w wr v u))
    (fun _ i _ => (intOf i + 1).toNat)
  case atStart => exact ⟨size, Nat.le_refl _, rfl, by show World.ownsRow _ _ _ _ _ _ _; rw [Nat.sub_self]; simpa using hown, Outs.refl _ _⟩
  case round =>
    obtain ⟨j, hj, rfl, ho, hbw⟩ := hrel
    cases j with
    | zero =>
      go_wp2
      go_ret
      have e : (Orch.be n size).take (size - 0) = Orch.be n size := by rw [List.take_of_length_le (by rw [Orch.be_length]; omega)]
      have h1 := ho.out
      rw [e] at h1
      exact ⟨_, rfl, h1, hbw.out⟩
    | succ m =>
      rw [show ((m + 1 : Nat) : Int) - 1 = (m : Int) by omega]
      have hl : (xs ++ (Orch.be n size).take (size - (m + 1))).length ≤ 100008 := by
        rw [List.length_append, List.length_take, Orch.be_length]; omega
      have HT : Hid (xs ++ (Orch.be n size).take (size - m) = (xs ++ (Orch.be n size).take (size - (m + 1))) ++ [UInt8.ofNat ((n / 256 ^ m) % 256).toNat]) := by
        show _ = _
        rw [be_take n m size hj, List.append_assoc]
      have HB : Hid (IntKind.u64.wrap n / 2 ^ (8 * m) % 256 = ((UInt8.ofNat ((n / 256 ^ m) % 256).toNat).toNat : Int)) := byte_of n m (by omega)
      generalize xs ++ (Orch.be n size).take (size - (m + 1)) = L at *
      go_wp2_with (at_builtin; refine wpList_append_own_at _ rfl _ _ 34 rfl base 5 i0 (.int .u8 0) 1 1 Tryd.underlying34 hi hz0 hz1 hz2 rfl (by decide) _ _ _ rfl (ho.out.alloc _) ⟨wr.heap.size, 0, none⟩ 1 1 [_] rfl rfl (cell_one_new _ _ _) ?c2 ?c3 ?c4 ?c5 ?_)
      case c2 => intro u hu; simp at hu; subst hu; rfl
      case c3 => unfold maxLen; omega
      case c4 => omega
      case c5 => have := hbw.out.grown.size; simp; omega
      intro v' w1 hown' hgrow _ hat
      have hb1 : Hid (Outs w w1 v v') := hbw.out.trans (Outs.from (below1 wr _) ⟨hgrow, by rcases hat with h | h; exact Or.inl h; exact Or.inr ⟨_, h, by simp⟩⟩)
      have hown2 : Hid (w1.ownsRow base 5 1 v' (xs ++ (Orch.be n size).take (size - m)).length (bcells (xs ++ (Orch.be n size).take (size - m)))) := by
        show World.ownsRow _ _ _ _ _ _ _
        rw [HT.out, bcells_append]
        rw [HB.out] at hown'
        simpa [bcells] using hown'
      clear hown' hgrow hat
      go_wp2
      go_roundw
      case rel => exact ⟨m, by omega, by go_num, hown2, hb1⟩
      case measure => first | (simp [intOf]; done) | (simp [intOf]; omega)
end Go.Proofs.YtbnoghkijgmcgaaDoor
