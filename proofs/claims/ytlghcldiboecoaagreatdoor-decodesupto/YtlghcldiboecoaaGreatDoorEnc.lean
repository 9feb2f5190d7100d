/- What is appended to, and where it lies. -/
import Derived.Test.YtlghcldiboecoaaGreatDoorFind
import Derived.Lib.AppendStr
import Derived.Maps.AppendAt
import Derived.Test.YtlghcldiboecoaaGreatDoorTakeA
import Derived.Test.YtlghcldiboecoaaGreatDoorParseA
set_option linter.unusedVariables false
namespace Go.Proofs.YtlghcldiboecoaaGreatDoor
open Go.RowKit

/-- From w to w' nothing but v's own row has turned; what v has become lies there, or in new memory. -/
structure Outs (w w' : World) (v v' : Value) : Prop where
  grown : w.grownBy w' v.ownBlock
  lies : v'.ownBlock = v.ownBlock ∨ ∃ g, v'.ownBlock = some g ∧ w.heap.size ≤ g

theorem Outs.refl (w : World) (v : Value) : Outs w w v v := ⟨⟨rfl, rfl, rfl, Nat.le_refl _, fun _ _ _ => rfl⟩, Or.inl rfl⟩

theorem Outs.trans {w0 w1 w2 : World} {a b c : Value} (h : Outs w0 w1 a b) (k : Outs w1 w2 b c) : Outs w0 w2 a c := by
  have s0 := h.grown.size
  refine ⟨⟨k.grown.os.trans h.grown.os, k.grown.tape.trans h.grown.tape, k.grown.output.trans h.grown.output, Nat.le_trans s0 k.grown.size, fun i hi hne => ?_⟩, ?_⟩
  · rw [k.grown.block i (by omega) ?_, h.grown.block i hi hne]
    intro e
    rcases h.lies with hl | ⟨g, hl, hg⟩
    · rw [hl] at e; exact hne e
    · rw [hl] at e
      simp only [Option.some.injEq] at e
      omega
  · rcases k.lies with kl | ⟨g, kl, hg⟩
    · rw [kl]; exact h.lies
    · exact Or.inr ⟨g, kl, by omega⟩

/-- A step that turns nothing old. -/
theorem Outs.below {w0 w1 w2 : World} {a b : Value} (h : Outs w0 w1 a b) (k : Below w1.heap.size w1 w2) : Outs w0 w2 a b :=
  ⟨⟨k.os.trans h.grown.os, k.tape.trans h.grown.tape, k.output.trans h.grown.output, Nat.le_trans h.grown.size k.size, fun i hi hne => (k.block i (Nat.lt_of_lt_of_le hi h.grown.size)).trans (h.grown.block i hi hne)⟩, h.lies⟩

theorem Outs.from {w0 w1 w2 : World} {a b : Value} (k : Below w0.heap.size w0 w1) (h : Outs w1 w2 a b) : Outs w0 w2 a b :=
  ⟨⟨h.grown.os.trans k.os, h.grown.tape.trans k.tape, h.grown.output.trans k.output, Nat.le_trans k.size h.grown.size, fun i hi hne => (h.grown.block i (Nat.lt_of_lt_of_le hi k.size) hne).trans (k.block i hi)⟩, by
    rcases h.lies with hl | ⟨g, hl, hg⟩
    · exact Or.inl hl
    · exact Or.inr ⟨g, hl, Nat.le_trans k.size hg⟩⟩

/-- What lies below the row's base is as it was. -/
theorem Outs.low {w0 w1 : World} {a b : Value} (h : Outs w0 w1 a b) {base : Nat} (hb : base ≤ w0.heap.size) (ha : ∀ g, a.ownBlock = some g → base ≤ g) : Below base w0 w1 :=
  ⟨h.grown.os, h.grown.tape, h.grown.output, h.grown.size, fun k hk => h.grown.block k (by omega) (fun e => by have := ha k e.symm; omega)⟩

/-- A block that is not the row's stays. -/
theorem Outs.keep {w0 w1 : World} {a b : Value} (h : Outs w0 w1 a b) {g : Nat} {o : Obj} (hg : w0.heap[g]? = some o) (hne : a.ownBlock ≠ some g) : w1.heap[g]? = some o :=
  (h.grown.block g (ltOf hg) (fun e => hne e.symm)).trans hg

section
variable {P : Program} (w : World)
theorem run_append_own_string_at (base : Nat) (t u ty e : TypeId) (i : TypeInfo) (ht : P.underlying t = some (.slice e)) (hu : P.underlying u = some .string) (hi : P.info? e = some i) (hz : i.zero = some (.int .u8 0))
    (hsize : i.size = 1) (hby : i.bytes = 1)
    (v : Value) (n : Nat) (hn : 0 < n) (xs : List Value) (hown : w.ownsRow base e 1 v n xs) (s : ByteArray)
    (h63 : n + s.size ≤ maxLen) (hbytes : n + s.size ≤ 140737488355328) (hbase : base ≤ w.heap.size) :
    ∃ v' w', (Builtin.append_ #[t, u] ty #[v, .string s]).run P w = .ok v' w' ∧ w'.ownsRow base e 1 v' (n + s.size) (xs ++ Lib.strCells s) ∧ Outs w w' v v' := by
  obtain ⟨v', w', hr, h2, h3, _⟩ := Lib.run_append_own_string (P := P) w base t u ty e i ht hu hi hz hsize hby v n xs hown s h63 hbytes hbase
  refine ⟨v', w', hr, h2, h3, ?_⟩
  have hsmall : n + s.size ≤ 9223372036854775807 := by simp only [maxLen] at h63; omega
  rcases hown.2 with ⟨_, h0⟩ | ⟨g, cap, cur, rfl, hbg, hg, hnc, hcm, hcs, htake⟩
  · omega
  · by_cases hroom : n + s.size ≤ cap
    · have hx := Lib.run_append_room_string (P := P) w t u ty e i ht hu hi hsize g n cap cur hg s hroom (by omega)
      rw [hr] at hx
      injection hx with hv hw
      rw [hv]
      exact Or.inl rfl
    · have holds : ∀ j u, xs[j]? = some u → w.cell? ((⟨g, 0, none⟩ : Addr).add j) = some u := hown.cells (g := g) rfl
      have hx := Lib.run_append_grow_string (P := P) w t u ty e i (.int .u8 0) ht hu hi hz ⟨g, 0, none⟩ n cap xs (by rw [hsize]; exact hown.1) holds s (by omega) (by omega) (by rw [hby]; exact growslice_fits (by omega) (by omega))
      rw [hr] at hx
      injection hx with hv hw
      rw [hv]
      exact Or.inr ⟨w.heap.size, rfl, Nat.le_refl _⟩

theorem wpList_append_own_string_at {ops : Array Oper} {rest : List Oper} {o : Oper} {a : Act} {Q : Exit → Act → World → Prop} (hgd : o.guard = none) (sl x : Operand) (t u : TypeId)
    (ho : o.op = .call { callee := .builtin .append, args := #[sl, x], argTypes := #[t, u] })
    (base : Nat) (e : TypeId) (i : TypeInfo) (ht : P.underlying t = some (.slice e)) (hu : P.underlying u = some .string) (hi : P.info? e = some i) (hz : i.zero = some (.int .u8 0))
    (hsize : i.size = 1) (hby : i.bytes = 1)
    (v : Value) (n : Nat) (hn : 0 < n) (xs : List Value) (hs : a.eval sl = v) (hown : w.ownsRow base e 1 v n xs) (s : ByteArray) (hx : a.eval x = .string s)
    (h63 : n + s.size ≤ maxLen) (hbytes : n + s.size ≤ 140737488355328) (hbase : base ≤ w.heap.size)
    (h : ∀ v' w', w'.ownsRow base e 1 v' (n + s.size) (xs ++ Lib.strCells s) → Outs w w' v v' → wpList P ops Q rest (a.put o.dst v') w') : wpList P ops Q (o :: rest) a w := by
  refine wpList_plain hgd fun K hK => ?_
  obtain ⟨v', w', hr, h2, h3⟩ := run_append_own_string_at (P := P) w base t u o.type e i ht hu hi hz hsize hby v n hn xs hown s h63 hbytes hbase
  unfold Oper.wp execOp
  simp only [ho, resolve, invoke, builtin, Sem.run_bind, Sem.run_pure, Result.andThen_ok, List.map_toArray, List.map_cons, List.map_nil, hs, hx, hr]
  exact hK _ _ (h v' w' h2 h3)
end

set_option maxHeartbeats 400000 in
/-- number.Append, and where the slice lies. -/
theorem append2 (w : World) (base : Nat) (v : Value) (n : Int) (size : Nat) (xs : List UInt8) (hs : size ≤ 8)
    (hown : w.ownsRow base 5 1 v xs.length (bcells xs)) (hbase : base ≤ w.heap.size) (hx : xs.length ≤ 100000) :
    Calls Tryz.prog 181 #[v, .int .i64 n, .int .i64 size] w fun e w' => ∃ v', e = .returned v' ∧ w'.ownsRow base 5 1 v' (xs ++ Orch.be n size).length (bcells (xs ++ Orch.be n size)) ∧ Outs w w' v v' := by
  obtain ⟨i0, hi, hz0, hz1, hz2⟩ := info_parts Tryz.info5
  go_enter Tryz.func181, Tryz.ntmps181
  go_wp2
  go_loopw [0, 7] (fun u i wr => ∃ j : Nat, j ≤ size ∧ i = .int .i64 ((j : Int) - 1) ∧ Hid (wr.ownsRow base 5 1 u (xs ++ (Orch.be n size).take (size - j)).length (bcells (xs ++ (Orch.be n size).take (size - j)))) ∧ Hid (Outs w wr v u))
    (fun _ i _ => (intOf i + 1).toNat)
  case atStart => exact ⟨size, Nat.le_refl _, rfl, by show World.ownsRow _ _ _ _ _ _ _; rw [Nat.sub_self]; simpa using hown, Outs.refl _ _⟩
  case round =>
    obtain ⟨j, hj, rfl, ho, hbw⟩ := hrel
    cases j with
    | zero =>
      go_wp2
      go_ret
      have e : (Orch.be n size).take (size - 0) = Orch.be n size := by rw [List.take_of_length_le (by rw [Orch.be_length]; omega)]
      have h1 := ho.out
      rw [e] at h1
      exact ⟨_, rfl, h1, hbw.out⟩
    | succ m =>
      rw [show ((m + 1 : Nat) : Int) - 1 = (m : Int) by omega]
      have hl : (xs ++ (Orch.be n size).take (size - (m + 1))).length ≤ 100008 := by
        rw [List.length_append, List.length_take, Orch.be_length]; omega
      have HT : Hid (xs ++ (Orch.be n size).take (size - m) = (xs ++ (Orch.be n size).take (size - (m + 1))) ++ [UInt8.ofNat ((n / 256 ^ m) % 256).toNat]) := by
        show _ = _
        rw [be_take n m size hj, List.append_assoc]
      have HB : Hid (IntKind.u64.wrap n / 2 ^ (8 * m) % 256 = ((UInt8.ofNat ((n / 256 ^ m) % 256).toNat).toNat : Int)) := byte_of n m (by omega)
      generalize xs ++ (Orch.be n size).take (size - (m + 1)) = L at *
      go_wp2_with (at_builtin; refine wpList_append_own_at _ rfl _ _ 57 rfl base 5 i0 (.int .u8 0) 1 1 Tryz.underlying57 hi hz0 hz1 hz2 rfl (by decide) _ _ _ rfl (ho.out.alloc _) ⟨wr.heap.size, 0, none⟩ 1 1 [_] rfl rfl (cell_one_new _ _ _) ?c2 ?c3 ?c4 ?c5 ?_)
      case c2 => intro u hu; simp at hu; subst hu; rfl
      case c3 => unfold maxLen; omega
      case c4 => omega
      case c5 => have := hbw.out.grown.size; simp; omega
      intro v' w1 hown' hgrow _ hat
      have hb1 : Hid (Outs w w1 v v') := hbw.out.trans (Outs.from (below1 wr _) ⟨hgrow, by rcases hat with h | h; exact Or.inl h; exact Or.inr ⟨_, h, by simp⟩⟩)
      have hown2 : Hid (w1.ownsRow base 5 1 v' (xs ++ (Orch.be n size).take (size - m)).length (bcells (xs ++ (Orch.be n size).take (size - m)))) := by
        show World.ownsRow _ _ _ _ _ _ _
        rw [HT.out, bcells_append]
        rw [HB.out] at hown'
        simpa [bcells] using hown'
      clear hown' hgrow hat
      go_wp2
      go_roundw
      case rel => exact ⟨m, by omega, by go_num, hown2, hb1⟩
      case measure => first | (simp [intOf]; done) | (simp [intOf]; omega)
end Go.Proofs.YtlghcldiboecoaaGreatDoor

/- put: what it leaves; at types without brackets. -/
set_option linter.unusedVariables false
namespace Go.Proofs.YtlghcldiboecoaaGreatDoor
open Go.RowKit

def puRes (base : Nat) (w w' : World) (ov : Value) (e : Ending) : Option (List UInt8) → Prop
  | none => (∃ a m c, e = .returned (.tuple #[.slice a m c, .bool false])) ∧ w.grownBy w' ov.ownBlock
  | some o => ∃ ov', e = .returned (.tuple #[ov', .bool true]) ∧ w'.ownsRow base 5 1 ov' o.length (bcells o) ∧ Outs w w' ov ov'

theorem ret_two {v : Value} {a b : Bool} (h : a = b) : Ending.returned (.tuple #[v, .bool a]) = .returned (.tuple #[v, .bool b]) := by rw [h]

theorem own_shape {w : World} {base : Nat} {v : Value} {n : Nat} {xs : List Value} (h : w.ownsRow base 5 1 v n xs) : ∃ a c, v = .slice a n c := by
  rcases h.2 with ⟨e, h0⟩ | ⟨g, cap, cur, e, _⟩
  · exact ⟨none, 0, by rw [e, h0]⟩
  · exact ⟨_, _, e⟩

set_option maxRecDepth 8000 in
set_option maxHeartbeats 400000 in
/-- A value that is none of the type. -/
theorem put_unfit (w : World) (ov : Value) (sg sh sz lo hi : Int) (tx : Bool) (fn : Int) (pa : Option Addr) (pn pc : Nat) (vn : Int) (vs : ByteArray) (la : Option Addr) (ln lc : Nat)
    (HF : Hid (∀ W, Below w.heap.size w W → Calls Tryz.prog 243 #[tyv sg sh sz lo hi tx fn (.slice pa pn pc), vv vn vs (.slice la ln lc)] W fun e w' => e = .returned (.bool false) ∧ Below W.heap.size W w')) :
    Calls Tryz.prog 177 #[ov, tyv sg sh sz lo hi tx fn (.slice pa pn pc), vv vn vs (.slice la ln lc)] w fun e w' => (∃ a m c, e = .returned (.tuple #[.slice a m c, .bool false])) ∧ Below w.heap.size w w' := by
  go_enter Tryz.func177, Tryz.ntmps177
  go_wp2_with (go_at_call 243; refine (HF.out _ (below2 _ _ _)).mono ?_; rintro e w1 ⟨rfl, hb1⟩; have HB1 : Hid (Below w.heap.size w w1) := (below2 _ _ _).trans (hb1.mono (by simp; omega)); clear hb1)
  go_ret2
  exact ⟨⟨_, _, _, rfl⟩, HB1.out⟩

set_option maxRecDepth 8000 in
set_option maxHeartbeats 1000000 in
/-- A number. -/
theorem put_0 (w : World) (base : Nat) (ov : Value) (xs : List UInt8) (hx : xs.length ≤ 4000) (hown : w.ownsRow base 5 1 ov xs.length (bcells xs)) (hbase : base ≤ w.heap.size) (sg sz : Nat) (hsz : sz ≤ 8) (lo hi : Int) (tx : Bool) (fn : Nat) (pa : Option Addr) (pn pc : Nat) (vn : Int) (vs : ByteArray) (la : Option Addr) (lc : Nat)
    (HF : Hid (∀ W, Below w.heap.size w W → Calls Tryz.prog 243 #[tyv sg 0 sz lo hi tx fn (.slice pa pn pc), vv vn vs (.slice la 0 lc)] W fun e w' => e = .returned (.bool true) ∧ Below W.heap.size W w')) :
    Calls Tryz.prog 177 #[ov, tyv sg 0 sz lo hi tx fn (.slice pa pn pc), vv vn vs (.slice la 0 lc)] w fun e w' => ∃ ov', e = .returned (.tuple #[ov', .bool (decide ((xs ++ Orch.be vn sz).length ≤ 1000))]) ∧ w'.ownsRow base 5 1 ov' (xs ++ Orch.be vn sz).length (bcells (xs ++ Orch.be vn sz)) ∧ Outs w w' ov ov' := by
  obtain ⟨n0, n1⟩ := new2 w (.cells #[.int .u8 sg, .int .i64 0, .int .i64 sz, .int .i64 lo, .int .i64 hi, .bool tx, .int .u8 fn, .slice pa pn pc] 227) (.cells #[.int .i64 vn, .string vs, .slice la 0 lc] 113)
  have N0 := hide n0
  have N1 := hide n1
  have HO := hide hown
  clear n0 n1 hown
  have HAPP : Hid (∀ W, Below w.heap.size w W → Calls Tryz.prog 181 #[ov, .int .i64 vn, .int .i64 sz] W fun e w' => ∃ v', e = .returned v' ∧ w'.ownsRow base 5 1 v' (xs ++ Orch.be vn sz).length (bcells (xs ++ Orch.be vn sz)) ∧ Outs W w' ov v') := fun W hb => append2 W base ov vn sz xs hsz (ownsRow_below HO.out hb) (Nat.le_trans hbase hb.size) (by omega)
  have hol : (xs ++ Orch.be vn sz).length ≤ 4008 := by rw [List.length_append, Orch.be_length]; omega
  generalize xs ++ Orch.be vn sz = O at *
  go_enter Tryz.func177, Tryz.ntmps177
  go_wp2_with (first
    | (go_at_call 243; refine (HF.out _ (below2 _ _ _)).mono ?_; rintro e w1 ⟨rfl, hb1⟩; have HB1 : Hid (Below w.heap.size w w1) := (below2 _ _ _).trans (hb1.mono (by simp; omega)); have m0 := (hb1.block _ (ltOf N0.out)).trans N0.out; have m1 := (hb1.block _ (ltOf N1.out)).trans N1.out; have a1 := cellOf (j := 1) m0 rfl; have a2 := cellOf (j := 2) m0 rfl; have b0 := cellOf (j := 0) m1 rfl; have M1 := hide m1; clear hb1 m0 m1)
    | (go_at_call 181; refine (HAPP.out _ HB1.out).mono ?_; rintro e w2 ⟨v', rfl, ho2, hout⟩; obtain ⟨qa, qc, rfl⟩ := own_shape ho2; have HO2 := hide ho2; have HOUT : Hid (Outs w w2 ov (.slice qa O.length qc)) := Outs.from HB1.out hout; have g2 := cellOf (j := 2) (hout.keep M1.out (fun e => by have := (ownBlock_lt HO.out e).2; omega)) rfl; clear ho2 hout))
  refine wp_loop_rounds 1 ?_
  rw [rounds_succ]
  go_wp2
  go_ret2
  exact ⟨_, ret_two (by rw [Bool.eq_iff_iff]; simp; omega), HO2.out, HOUT.out⟩

set_option maxRecDepth 8000 in
set_option maxHeartbeats 1000000 in
/-- Bytes, or a text. -/
theorem put_1 (w : World) (base : Nat) (ov : Value) (xs : List UInt8) (hx : xs.length ≤ 4000) (hown : w.ownsRow base 5 1 ov xs.length (bcells xs)) (hbase : base ≤ w.heap.size) (sg sz : Nat) (lo hi : Int) (tx : Bool) (fn : Nat) (pa : Option Addr) (pn pc : Nat) (vn : Int) (vs : ByteArray) (hvs : vs.size ≤ 200) (la : Option Addr) (lc : Nat)
    (HF : Hid (∀ W, Below w.heap.size w W → Calls Tryz.prog 243 #[tyv sg 1 sz lo hi tx fn (.slice pa pn pc), vv vn vs (.slice la 0 lc)] W fun e w' => e = .returned (.bool true) ∧ Below W.heap.size W w')) :
    Calls Tryz.prog 177 #[ov, tyv sg 1 sz lo hi tx fn (.slice pa pn pc), vv vn vs (.slice la 0 lc)] w fun e w' => ∃ ov', e = .returned (.tuple #[ov', .bool (decide ((xs ++ Orch.be vs.size 4).length + vs.size ≤ 1000))]) ∧ w'.ownsRow base 5 1 ov' ((xs ++ Orch.be vs.size 4).length + vs.size) (bcells (xs ++ Orch.be vs.size 4) ++ Lib.strCells vs) ∧ Outs w w' ov ov' := by
  obtain ⟨i0, hi0, hz0, hz1, hz2⟩ := info_parts Tryz.info5
  obtain ⟨n0, n1⟩ := new2 w (.cells #[.int .u8 sg, .int .i64 1, .int .i64 sz, .int .i64 lo, .int .i64 hi, .bool tx, .int .u8 fn, .slice pa pn pc] 227) (.cells #[.int .i64 vn, .string vs, .slice la 0 lc] 113)
  have N0 := hide n0
  have N1 := hide n1
  have HO := hide hown
  clear n0 n1 hown
  have HAPP : Hid (∀ W, Below w.heap.size w W → Calls Tryz.prog 181 #[ov, .int .i64 vs.size, .int .i64 4] W fun e w' => ∃ v', e = .returned v' ∧ w'.ownsRow base 5 1 v' (xs ++ Orch.be vs.size 4).length (bcells (xs ++ Orch.be vs.size 4)) ∧ Outs W w' ov v') := fun W hb => append2 W base ov vs.size 4 xs (by omega) (ownsRow_below HO.out hb) (Nat.le_trans hbase hb.size) (by omega)
  have hol : (xs ++ Orch.be vs.size 4).length ≤ 4008 ∧ 4 ≤ (xs ++ Orch.be vs.size 4).length := by rw [List.length_append, Orch.be_length]; omega
  generalize xs ++ Orch.be vs.size 4 = O at *
  obtain ⟨hol1, hol2⟩ := hol
  go_enter Tryz.func177, Tryz.ntmps177
  go_wp2_with (first
    | (at_builtin; refine wpList_append_own_string_at _ rfl _ _ 57 9 rfl base 5 i0 Tryz.underlying57 Tryz.underlying9 hi0 hz0 hz1 hz2 _ O.length ?hn (bcells O) rfl HO2.out vs rfl ?h63 ?hby ?hba ?_)
    | (go_at_call 243; refine (HF.out _ (below2 _ _ _)).mono ?_; rintro e w1 ⟨rfl, hb1⟩; have HB1 : Hid (Below w.heap.size w w1) := (below2 _ _ _).trans (hb1.mono (by simp; omega)); have m0 := (hb1.block _ (ltOf N0.out)).trans N0.out; have m1 := (hb1.block _ (ltOf N1.out)).trans N1.out; have a1 := cellOf (j := 1) m0 rfl; have b1 := cellOf (j := 1) m1 rfl; have M1 := hide m1; clear hb1 m0 m1)
    | (go_at_call 181; refine (HAPP.out _ HB1.out).mono ?_; rintro e w2 ⟨v', rfl, ho2, hout⟩; obtain ⟨qa, qc, rfl⟩ := own_shape ho2; have HO2 := hide ho2; have HOUT0 := hide hout; have HOUT : Hid (Outs w w2 ov (.slice qa O.length qc)) := Outs.from HB1.out hout; have M2 := hide (hout.keep M1.out (fun e => by have := (ownBlock_lt HO.out e).2; omega)); have g1 := cellOf (j := 1) M2.out rfl; have hw2 : Hid (base ≤ w2.heap.size) := Nat.le_trans hbase HOUT.out.grown.size; clear ho2 hout))
  case hn => omega
  case h63 => unfold maxLen; omega
  case hby => omega
  case hba => exact hw2.out
  intro v3 w3 hown3 hout3
  obtain ⟨ra, rc, rfl⟩ := own_shape hown3
  have HO3 := hide hown3
  have HOUT3 : Hid (Outs w w3 ov _) := HOUT.out.trans hout3
  have k2 := cellOf (j := 2) (hout3.keep M2.out (fun e => by
    rcases HOUT0.out.lies with h | ⟨g, h, hg⟩
    · rw [h] at e; have := (ownBlock_lt HO.out e).2; omega
    · rw [h] at e
      have h1 : g = w.heap.size + 1 := by simpa using e
      have h2 := ltOf M1.out
      omega)) rfl
  clear hown3 hout3 g1 b1 a1
  go_wp2
  refine wp_loop_rounds 1 ?_
  rw [rounds_succ]
  go_wp2
  go_ret2
  exact ⟨_, ret_two (by rw [Bool.eq_iff_iff]; simp; omega), HO3.out, HOUT3.out⟩
end Go.Proofs.YtlghcldiboecoaaGreatDoor

/- put at vectors and records. -/
set_option linter.unusedVariables false
namespace Go.Proofs.YtlghcldiboecoaaGreatDoor
open Go.RowKit

theorem grownBy_drew {w w' : World} {r : Option Nat} (h : w.grownBy w' r) : w.grownBy w'.drew r := ⟨h.os, h.tape, h.output, h.size, h.block⟩

/-- The elements, one behind the other. -/
def goE (f : Nat → List UInt8 → Option (List UInt8)) : Nat → Nat → List UInt8 → Option (List UInt8)
  | 0, _, o => some o
  | n + 1, i, o => match f i o with
    | none => none
    | some o' => goE f n (i + 1) o'

/-- What put leaves behind the elements. -/
def puEnd (base : Nat) (w w' : World) (ov : Value) (e : Ending) : Option (List UInt8) → Prop
  | none => (∃ a m c, e = .returned (.tuple #[.slice a m c, .bool false])) ∧ w.grownBy w' ov.ownBlock
  | some o => ∃ ov', e = .returned (.tuple #[ov', .bool (decide (o.length ≤ 1000))]) ∧ w'.ownsRow base 5 1 ov' o.length (bcells o) ∧ Outs w w' ov ov'

set_option maxRecDepth 8000 in
set_option maxHeartbeats 4000000 in
theorem put_2 (w : World) (base : Nat) (ov : Value) (xs : List UInt8) (hx : xs.length ≤ 4000) (hown : w.ownsRow base 5 1 ov xs.length (bcells xs)) (hbase : base ≤ w.heap.size) (sg sz : Nat) (lo hi : Int) (tx : Bool) (fn : Nat) (pa : Option Addr) (pn pc : Nat) (vn : Int) (vs : ByteArray) (la : Option Addr) (ln lc : Nat) (hln : ln ≤ 64) (Bd : Nat) (hBd1 : 1000 ≤ Bd) (hBd2 : Bd ≤ 1300) (O : List UInt8) (hO : O = xs ++ Orch.be ln 4)
    (f : Nat → List UInt8 → Option (List UInt8)) (TOT : Option (List UInt8)) (hTOT : goE f ln 0 O = TOT)
    (el : Nat → Orch.V) (ex : Nat → Value) (HEL : Hid (∀ W, Below base w W → ∀ i, i < ln → ∃ (g : Nat) (xa : Option Addr) (xm xc : Nat), la = some ⟨g, 0, none⟩ ∧ g < W.heap.size ∧ ln ≤ lc ∧ ex i = .slice xa xm xc ∧ W.cell? ⟨g, i * 3, none⟩ = some (.int .i64 (el i).n) ∧ W.cell? ⟨g, i * 3 + 1, none⟩ = some (.string (el i).s) ∧ W.cell? ⟨g, i * 3 + 2, none⟩ = some (ex i)))
    (pl : Nat → Orch.Lt) (ppt : Nat → World → Value → Prop)
    (HPART : Hid (∀ W, Below base w W → ∀ i, i < ln → Calls Tryz.prog 244 #[tyv sg 2 sz lo hi tx fn (.slice pa pn pc), .int .i64 i] W fun e w' => ∃ xa xm xc, e = .returned (tval (pl i) (.slice xa xm xc)) ∧ ppt i W (.slice xa xm xc) ∧ Below W.heap.size W w'))
    (HPUT : Hid (∀ W0 W, Below base w W0 → Below W0.heap.size W0 W → ∀ i, i < ln → ∀ x, ppt i W0 x → ∀ (ou : Value) (ys : List UInt8), ys.length ≤ Bd → base ≤ W.heap.size → W.ownsRow base 5 1 ou ys.length (bcells ys) → Calls Tryz.prog 177 #[ou, tval (pl i) x, vv (el i).n (el i).s (ex i)] W fun e w' => puRes base W w' ou e (f i ys)))
    (hf : ∀ i ys o, f i ys = some o → o.length ≤ 1000) (hOl : O.length ≤ Bd ∨ ln = 0) (hOl2 : O.length ≤ 4008)
    (HF : Hid (∀ W, Below w.heap.size w W → Calls Tryz.prog 243 #[tyv sg 2 sz lo hi tx fn (.slice pa pn pc), vv vn vs (.slice la ln lc)] W fun e w' => e = .returned (.bool true) ∧ Below W.heap.size W w')) :
    Calls Tryz.prog 177 #[ov, tyv sg 2 sz lo hi tx fn (.slice pa pn pc), vv vn vs (.slice la ln lc)] w fun e w' => puEnd base w w' ov e TOT := by
  have hTOT' := hide hTOT
  obtain ⟨n0, n1⟩ := new2 w (.cells #[.int .u8 sg, .int .i64 2, .int .i64 sz, .int .i64 lo, .int .i64 hi, .bool tx, .int .u8 fn, .slice pa pn pc] 227) (.cells #[.int .i64 vn, .string vs, .slice la ln lc] 113)
  have N0 := hide n0
  have N1 := hide n1
  have HO := hide hown
  have HFL := hide hf
  clear n0 n1 hown hTOT hf
  have HAPP : Hid (∀ W, Below w.heap.size w W → Calls Tryz.prog 181 #[ov, .int .i64 ln, .int .i64 4] W fun e w' => ∃ v', e = .returned v' ∧ w'.ownsRow base 5 1 v' O.length (bcells O) ∧ Outs W w' ov v') := fun W hb => by
    rw [hO]
    exact append2 W base ov ln 4 xs (by omega) (ownsRow_below HO.out hb) (Nat.le_trans hbase hb.size) (by omega)
  clear hO
  go_enter Tryz.func177, Tryz.ntmps177
  go_wp2_with (first
    | (go_at_call 243; refine (HF.out _ (below2 _ _ _)).mono ?_; rintro e w1 ⟨rfl, hb1⟩; have HB1 : Hid (Below w.heap.size w w1) := (below2 _ _ _).trans (hb1.mono (by simp; omega)); have m0 := (hb1.block _ (ltOf N0.out)).trans N0.out; have m1 := (hb1.block _ (ltOf N1.out)).trans N1.out; have a1 := cellOf (j := 1) m0 rfl; have b2 := cellOf (j := 2) m1 rfl; have M0 := hide m0; have M1 := hide m1; clear hb1 m0 m1)
    | (go_at_call 181; refine (HAPP.out _ HB1.out).mono ?_; rintro e wq ⟨v', rfl, ho2, hout⟩; obtain ⟨qa, qc, rfl⟩ := own_shape ho2; have HOS := hide ho2; have HOUTS := hide hout; have g2 := cellOf (j := 2) (hout.keep M1.out (fun e => by have := (ownBlock_lt HO.out e).2; omega)) rfl; clear ho2 hout))
  go_loopw [0, 48] (fun u0 i48 wr => ∃ (i : Nat) (xr : List UInt8), i48 = .int .i64 i ∧ i ≤ ln ∧ (xr.length ≤ Bd ∨ i = ln) ∧ xr.length ≤ 4008 ∧ Hid (goE f (ln - i) i xr = TOT) ∧ Hid (wr.ownsRow base 5 1 u0 xr.length (bcells xr)) ∧ Hid (Outs w1 wr ov u0))
    (fun _ i _ => ln - (intOf i).toNat)
  case atStart => exact ⟨0, O, rfl, Nat.zero_le _, by omega, hOl2, hTOT', HOS, HOUTS⟩
  case round =>
    obtain ⟨i, xr, rfl, hi', hxr, hxr2, HG, HOR, HOUT⟩ := hrel
    obtain ⟨qa, qc, hq⟩ := own_shape HOR.out
    subst hq
    have HOVLT : Hid (∀ g, ov.ownBlock = some g → base ≤ g ∧ g < w.heap.size) := fun g e => ownBlock_lt HO.out e
    have HLOW1 : Hid (Below base w w1) := HB1.out.mono hbase
    have HLOW : Hid (Below base w wr) := HLOW1.out.trans (HOUT.out.low (Nat.le_trans hbase HB1.out.size) (fun g e => (HOVLT.out g e).1))
    by_cases hlt : i < ln
    · have m0 := HOUT.out.keep M0.out (fun e => by have := (HOVLT.out _ e).2; omega)
      have a0' := cellOf (j := 0) m0 rfl
      have a1' := cellOf (j := 1) m0 rfl
      have a2' := cellOf (j := 2) m0 rfl
      have a3' := cellOf (j := 3) m0 rfl
      have a4' := cellOf (j := 4) m0 rfl
      have a5' := cellOf (j := 5) m0 rfl
      have a6' := cellOf (j := 6) m0 rfl
      have a7' := cellOf (j := 7) m0 rfl
      have hw1r := ltOf m0
      have MR := hide m0
      obtain ⟨g, xa, xm, xc, hla, hgl, hlc, hex, e0, e1, e2⟩ := HEL.out wr HLOW.out i hlt
      subst hla
      have HEX := hide hex
      rw [hex] at e2
      have hltz : (i : Int) < (ln : Int) := by omega
      have hlenx : xr.length ≤ Bd := by omega
      have HGS : Hid (TOT = match f i xr with | none => none | some o => goE f (ln - (i + 1)) (i + 1) o) := by
        show _ = _
        rw [← HG.out, show ln - i = (ln - (i + 1)) + 1 by omega, goE]
      have HALLOC : Hid (Below base w (wr.alloc (.cells #[.int .i64 (el i).n, .string (el i).s, .slice xa xm xc] 113))) := HLOW.out.alloc (Nat.le_trans hbase HLOW.out.size) _
      have hnew := hide (heap_alloc_new wr (.cells #[.int .i64 (el i).n, .string (el i).s, .slice xa xm xc] 113))
      have MRA : Hid ((wr.alloc (.cells #[.int .i64 (el i).n, .string (el i).s, .slice xa xm xc] 113)).heap[w.heap.size]? = _) := (Below.heap_alloc _ _ _ hw1r).trans m0
      clear m0 hex HG
      have HFI := hide (HFL.out i xr)
      cases hfi : f i xr with
      | none =>
        have HR : Hid (TOT = none) := by
          show _ = _
          rw [HGS.out, hfi]
        have HPUT' : Hid (∀ W0 W, Below base w W0 → Below W0.heap.size W0 W → ∀ x, ppt i W0 x → W.ownsRow base 5 1 (.slice qa xr.length qc) xr.length (bcells xr) → Calls Tryz.prog 177 #[.slice qa xr.length qc, tval (pl i) x, vv (el i).n (el i).s (.slice xa xm xc)] W fun e w' => (∃ a m c, e = .returned (.tuple #[.slice a m c, .bool false])) ∧ W.grownBy w' (Value.slice qa xr.length qc).ownBlock) := fun W0 W h1 h2 x h3 h4 => by
          have := HPUT.out W0 W h1 h2 i hlt x h3 _ xr hlenx (Nat.le_trans (Nat.le_trans hbase h1.size) h2.size) h4
          rw [hfi, HEX.out] at this
          exact this
        clear HGS hfi HFI HPUT
        go_wp2
        go_region_with (first
          | (go_at_call 244
             refine (HPART.out _ (by first | exact HALLOC.out | exact HALLOC.out.drew | exact HALLOC.out.drew.drew) i hlt).mono ?_
             rintro e w2 ⟨ya, ym, yc, rfl, hpp, hb2⟩
             have HPP := hide hpp
             have HB2 := hide hb2
             have HB2R : Hid (Below wr.heap.size wr w2) := Below.trans (by first | exact below1 wr _ | exact (below1 wr _).drew | exact (below1 wr _).drew.drew) (hb2.mono (by simp))
             have k2 := (hb2.block _ (ltOf hnew.out)).trans hnew.out
             have l0 := cellOf (j := 0) k2 rfl
             have l1 := cellOf (j := 1) k2 rfl
             have l2 := cellOf (j := 2) k2 rfl
             clear hpp hb2 k2)
          | (go_at_call 177
             refine (HPUT'.out _ _ (by first | exact HALLOC.out | exact HALLOC.out.drew | exact HALLOC.out.drew.drew) (by first | exact HB2.out | exact HB2.out.drew) _ HPP.out (ownsRow_below ((HOR.out.alloc _)) (by first | exact HB2.out | exact HB2.out.drew | exact (below_drew _).trans HB2.out | exact Below.drew ((below_drew _).trans HB2.out)))).mono ?_
             rintro e w3 ⟨⟨za, zm, zc, rfl⟩, hg3⟩
             have HFIN : Hid (w.grownBy w3 ov.ownBlock) := (Outs.trans (Outs.from HB1.out (HOUT.out.below (by first | exact HB2R.out | exact HB2R.out.drew))) (⟨hg3, Or.inl rfl⟩ : Outs _ w3 _ (Value.slice qa xr.length qc))).grown
             clear hg3))
        all_goals go_wp2
        all_goals go_ret2
        all_goals rw [HR.out]
        all_goals exact ⟨⟨_, _, _, rfl⟩, by first | exact HFIN.out | exact grownBy_drew HFIN.out⟩
      | some o =>
        have HR : Hid (goE f (ln - (i + 1)) (i + 1) o = TOT) := by
          show _ = _
          rw [HGS.out, hfi]
        have hol := HFI.out o hfi
        have HPUT' : Hid (∀ W0 W, Below base w W0 → Below W0.heap.size W0 W → ∀ x, ppt i W0 x → W.ownsRow base 5 1 (.slice qa xr.length qc) xr.length (bcells xr) → Calls Tryz.prog 177 #[.slice qa xr.length qc, tval (pl i) x, vv (el i).n (el i).s (.slice xa xm xc)] W fun e w' => ∃ ov', e = .returned (.tuple #[ov', .bool true]) ∧ w'.ownsRow base 5 1 ov' o.length (bcells o) ∧ Outs W w' (.slice qa xr.length qc) ov') := fun W0 W h1 h2 x h3 h4 => by
          have := HPUT.out W0 W h1 h2 i hlt x h3 _ xr hlenx (Nat.le_trans (Nat.le_trans hbase h1.size) h2.size) h4
          rw [hfi, HEX.out] at this
          exact this
        clear HGS hfi HFI HPUT
        go_wp2
        go_region_with (first
          | (go_at_call 244
             refine (HPART.out _ (by first | exact HALLOC.out | exact HALLOC.out.drew | exact HALLOC.out.drew.drew) i hlt).mono ?_
             rintro e w2 ⟨ya, ym, yc, rfl, hpp, hb2⟩
             have HPP := hide hpp
             have HB2 := hide hb2
             have HB2R : Hid (Below wr.heap.size wr w2) := Below.trans (by first | exact below1 wr _ | exact (below1 wr _).drew | exact (below1 wr _).drew.drew) (hb2.mono (by simp))
             have k2 := (hb2.block _ (ltOf hnew.out)).trans hnew.out
             have l0 := cellOf (j := 0) k2 rfl
             have l1 := cellOf (j := 1) k2 rfl
             have l2 := cellOf (j := 2) k2 rfl
             clear hpp hb2 k2)
          | (go_at_call 177
             refine (HPUT'.out _ _ (by first | exact HALLOC.out | exact HALLOC.out.drew | exact HALLOC.out.drew.drew) (by first | exact HB2.out | exact HB2.out.drew) _ HPP.out (ownsRow_below ((HOR.out.alloc _)) (by first | exact HB2.out | exact HB2.out.drew | exact (below_drew _).trans HB2.out | exact Below.drew ((below_drew _).trans HB2.out)))).mono ?_
             rintro e w3 ⟨ov3, rfl, ho3, hout3⟩
             have HO3 := hide ho3
             have HOUT3 : Hid (Outs w1 w3 ov ov3) := (HOUT.out.below (by first | exact HB2R.out | exact HB2R.out.drew)).trans hout3
             clear ho3 hout3))
        all_goals go_wp2
        all_goals go_roundw
        all_goals try (case rel => exact ⟨i + 1, o, by go_num, by omega, by omega, by omega, HR, HO3, by first | exact HOUT3 | exact HOUT3.out.below (below_drew _)⟩)
        all_goals try (case measure => simp [intOf]; omega)
    · have hie : i = ln := by omega
      have HR : Hid (TOT = some xr) := by
        show _ = _
        rw [← HG.out, hie, Nat.sub_self, goE]
      have HIE := hide hie
      clear hie HG
      go_wp2
      go_ret2
      rw [HR.out]
      exact ⟨_, ret_two (by rw [Bool.eq_iff_iff]; simp; omega), HOR.out, Outs.from HB1.out HOUT.out⟩
end Go.Proofs.YtlghcldiboecoaaGreatDoor

/- put at records. -/
set_option linter.unusedVariables false
namespace Go.Proofs.YtlghcldiboecoaaGreatDoor
open Go.RowKit

set_option maxRecDepth 8000 in
set_option maxHeartbeats 4000000 in
theorem put_3 (w : World) (base : Nat) (ov : Value) (xs : List UInt8) (hx : xs.length ≤ 4000) (hown : w.ownsRow base 5 1 ov xs.length (bcells xs)) (hbase : base ≤ w.heap.size) (sg sz : Nat) (lo hi : Int) (tx : Bool) (fn : Nat) (pa : Option Addr) (pn pc : Nat) (vn : Int) (vs : ByteArray) (la : Option Addr) (ln lc : Nat) (hln : ln ≤ 64) (Bd : Nat) (hBd1 : 1000 ≤ Bd) (hBd2 : Bd ≤ 1300) (O : List UInt8) (hO : O = xs)
    (f : Nat → List UInt8 → Option (List UInt8)) (TOT : Option (List UInt8)) (hTOT : goE f ln 0 O = TOT)
    (el : Nat → Orch.V) (ex : Nat → Value) (HEL : Hid (∀ W, Below base w W → ∀ i, i < ln → ∃ (g : Nat) (xa : Option Addr) (xm xc : Nat), la = some ⟨g, 0, none⟩ ∧ g < W.heap.size ∧ ln ≤ lc ∧ ex i = .slice xa xm xc ∧ W.cell? ⟨g, i * 3, none⟩ = some (.int .i64 (el i).n) ∧ W.cell? ⟨g, i * 3 + 1, none⟩ = some (.string (el i).s) ∧ W.cell? ⟨g, i * 3 + 2, none⟩ = some (ex i)))
    (pl : Nat → Orch.Lt) (ppt : Nat → World → Value → Prop)
    (HPART : Hid (∀ W, Below base w W → ∀ i, i < ln → Calls Tryz.prog 244 #[tyv sg 3 sz lo hi tx fn (.slice pa pn pc), .int .i64 i] W fun e w' => ∃ xa xm xc, e = .returned (tval (pl i) (.slice xa xm xc)) ∧ ppt i W (.slice xa xm xc) ∧ Below W.heap.size W w'))
    (HPUT : Hid (∀ W0 W, Below base w W0 → Below W0.heap.size W0 W → ∀ i, i < ln → ∀ x, ppt i W0 x → ∀ (ou : Value) (ys : List UInt8), ys.length ≤ Bd → base ≤ W.heap.size → W.ownsRow base 5 1 ou ys.length (bcells ys) → Calls Tryz.prog 177 #[ou, tval (pl i) x, vv (el i).n (el i).s (ex i)] W fun e w' => puRes base W w' ou e (f i ys)))
    (hf : ∀ i ys o, f i ys = some o → o.length ≤ 1000) (hOl : O.length ≤ Bd ∨ ln = 0) (hOl2 : O.length ≤ 4008)
    (HF : Hid (∀ W, Below w.heap.size w W → Calls Tryz.prog 243 #[tyv sg 3 sz lo hi tx fn (.slice pa pn pc), vv vn vs (.slice la ln lc)] W fun e w' => e = .returned (.bool true) ∧ Below W.heap.size W w')) :
    Calls Tryz.prog 177 #[ov, tyv sg 3 sz lo hi tx fn (.slice pa pn pc), vv vn vs (.slice la ln lc)] w fun e w' => puEnd base w w' ov e TOT := by
  have hTOT' := hide hTOT
  obtain ⟨n0, n1⟩ := new2 w (.cells #[.int .u8 sg, .int .i64 3, .int .i64 sz, .int .i64 lo, .int .i64 hi, .bool tx, .int .u8 fn, .slice pa pn pc] 227) (.cells #[.int .i64 vn, .string vs, .slice la ln lc] 113)
  have N0 := hide n0
  have N1 := hide n1
  have HO := hide hown
  have HFL := hide hf
  clear n0 n1 hown hTOT hf
  go_enter Tryz.func177, Tryz.ntmps177
  go_wp2_with (first
    | (go_at_call 243; refine (HF.out _ (below2 _ _ _)).mono ?_; rintro e w1 ⟨rfl, hb1⟩; have HB1 : Hid (Below w.heap.size w w1) := (below2 _ _ _).trans (hb1.mono (by simp; omega)); have m0 := (hb1.block _ (ltOf N0.out)).trans N0.out; have m1 := (hb1.block _ (ltOf N1.out)).trans N1.out; have a1 := cellOf (j := 1) m0 rfl; have b2 := cellOf (j := 2) m1 rfl; have M0 := hide m0; have M1 := hide m1; clear hb1 m0 m1))
  have HOS : Hid (w1.ownsRow base 5 1 ov O.length (bcells O)) := by
    show World.ownsRow _ _ _ _ _ _ _
    rw [hO]
    exact ownsRow_below HO.out HB1.out
  have HOUTS : Hid (Outs w1 w1 ov ov) := Outs.refl _ _
  clear hO
  go_loopw [0, 48] (fun u0 i48 wr => ∃ (i : Nat) (xr : List UInt8), i48 = .int .i64 i ∧ i ≤ ln ∧ (xr.length ≤ Bd ∨ i = ln) ∧ xr.length ≤ 4008 ∧ Hid (goE f (ln - i) i xr = TOT) ∧ Hid (wr.ownsRow base 5 1 u0 xr.length (bcells xr)) ∧ Hid (Outs w1 wr ov u0))
    (fun _ i _ => ln - (intOf i).toNat)
  case atStart => exact ⟨0, O, rfl, Nat.zero_le _, by omega, hOl2, hTOT', HOS, HOUTS⟩
  case round =>
    obtain ⟨i, xr, rfl, hi', hxr, hxr2, HG, HOR, HOUT⟩ := hrel
    obtain ⟨qa, qc, hq⟩ := own_shape HOR.out
    subst hq
    have HOVLT : Hid (∀ g, ov.ownBlock = some g → base ≤ g ∧ g < w.heap.size) := fun g e => ownBlock_lt HO.out e
    have HLOW1 : Hid (Below base w w1) := HB1.out.mono hbase
    have HLOW : Hid (Below base w wr) := HLOW1.out.trans (HOUT.out.low (Nat.le_trans hbase HB1.out.size) (fun g e => (HOVLT.out g e).1))
    by_cases hlt : i < ln
    · have m0 := HOUT.out.keep M0.out (fun e => by have := (HOVLT.out _ e).2; omega)
      have a0' := cellOf (j := 0) m0 rfl
      have a1' := cellOf (j := 1) m0 rfl
      have a2' := cellOf (j := 2) m0 rfl
      have a3' := cellOf (j := 3) m0 rfl
      have a4' := cellOf (j := 4) m0 rfl
      have a5' := cellOf (j := 5) m0 rfl
      have a6' := cellOf (j := 6) m0 rfl
      have a7' := cellOf (j := 7) m0 rfl
      have hw1r := ltOf m0
      have MR := hide m0
      obtain ⟨g, xa, xm, xc, hla, hgl, hlc, hex, e0, e1, e2⟩ := HEL.out wr HLOW.out i hlt
      subst hla
      have HEX := hide hex
      rw [hex] at e2
      have hltz : (i : Int) < (ln : Int) := by omega
      have hlenx : xr.length ≤ Bd := by omega
      have HGS : Hid (TOT = match f i xr with | none => none | some o => goE f (ln - (i + 1)) (i + 1) o) := by
        show _ = _
        rw [← HG.out, show ln - i = (ln - (i + 1)) + 1 by omega, goE]
        all_goals (cases f i xr <;> rfl)
      have HALLOC : Hid (Below base w (wr.alloc (.cells #[.int .i64 (el i).n, .string (el i).s, .slice xa xm xc] 113))) := HLOW.out.alloc (Nat.le_trans hbase HLOW.out.size) _
      have hnew := hide (heap_alloc_new wr (.cells #[.int .i64 (el i).n, .string (el i).s, .slice xa xm xc] 113))
      have MRA : Hid ((wr.alloc (.cells #[.int .i64 (el i).n, .string (el i).s, .slice xa xm xc] 113)).heap[w.heap.size]? = _) := (Below.heap_alloc _ _ _ hw1r).trans m0
      clear m0 hex HG
      have HFI := hide (HFL.out i xr)
      cases hfi : f i xr with
      | none =>
        have HR : Hid (TOT = none) := by
          show _ = _
          rw [HGS.out, hfi]
        have HPUT' : Hid (∀ W0 W, Below base w W0 → Below W0.heap.size W0 W → ∀ x, ppt i W0 x → W.ownsRow base 5 1 (.slice qa xr.length qc) xr.length (bcells xr) → Calls Tryz.prog 177 #[.slice qa xr.length qc, tval (pl i) x, vv (el i).n (el i).s (.slice xa xm xc)] W fun e w' => (∃ a m c, e = .returned (.tuple #[.slice a m c, .bool false])) ∧ W.grownBy w' (Value.slice qa xr.length qc).ownBlock) := fun W0 W h1 h2 x h3 h4 => by
          have := HPUT.out W0 W h1 h2 i hlt x h3 _ xr hlenx (Nat.le_trans (Nat.le_trans hbase h1.size) h2.size) h4
          rw [hfi, HEX.out] at this
          exact this
        clear HGS hfi HFI HPUT
        go_wp2
        go_region_with (first
          | (go_at_call 244
             refine (HPART.out _ (by first | exact HALLOC.out | exact HALLOC.out.drew | exact HALLOC.out.drew.drew) i hlt).mono ?_
             rintro e w2 ⟨ya, ym, yc, rfl, hpp, hb2⟩
             have HPP := hide hpp
             have HB2 := hide hb2
             have HB2R : Hid (Below wr.heap.size wr w2) := Below.trans (by first | exact below1 wr _ | exact (below1 wr _).drew | exact (below1 wr _).drew.drew) (hb2.mono (by simp))
             have k2 := (hb2.block _ (ltOf hnew.out)).trans hnew.out
             have l0 := cellOf (j := 0) k2 rfl
             have l1 := cellOf (j := 1) k2 rfl
             have l2 := cellOf (j := 2) k2 rfl
             clear hpp hb2 k2)
          | (go_at_call 177
             refine (HPUT'.out _ _ (by first | exact HALLOC.out | exact HALLOC.out.drew | exact HALLOC.out.drew.drew) (by first | exact HB2.out | exact HB2.out.drew) _ HPP.out (ownsRow_below ((HOR.out.alloc _)) (by first | exact HB2.out | exact HB2.out.drew | exact (below_drew _).trans HB2.out | exact Below.drew ((below_drew _).trans HB2.out)))).mono ?_
             rintro e w3 ⟨⟨za, zm, zc, rfl⟩, hg3⟩
             have HFIN : Hid (w.grownBy w3 ov.ownBlock) := (Outs.trans (Outs.from HB1.out (HOUT.out.below (by first | exact HB2R.out | exact HB2R.out.drew))) (⟨hg3, Or.inl rfl⟩ : Outs _ w3 _ (Value.slice qa xr.length qc))).grown
             clear hg3))
        all_goals go_wp2
        all_goals go_ret2
        all_goals rw [HR.out]
        all_goals exact ⟨⟨_, _, _, rfl⟩, by first | exact HFIN.out | exact grownBy_drew HFIN.out⟩
      | some o =>
        have HR : Hid (goE f (ln - (i + 1)) (i + 1) o = TOT) := by
          show _ = _
          rw [HGS.out, hfi]
        have hol := HFI.out o hfi
        have HPUT' : Hid (∀ W0 W, Below base w W0 → Below W0.heap.size W0 W → ∀ x, ppt i W0 x → W.ownsRow base 5 1 (.slice qa xr.length qc) xr.length (bcells xr) → Calls Tryz.prog 177 #[.slice qa xr.length qc, tval (pl i) x, vv (el i).n (el i).s (.slice xa xm xc)] W fun e w' => ∃ ov', e = .returned (.tuple #[ov', .bool true]) ∧ w'.ownsRow base 5 1 ov' o.length (bcells o) ∧ Outs W w' (.slice qa xr.length qc) ov') := fun W0 W h1 h2 x h3 h4 => by
          have := HPUT.out W0 W h1 h2 i hlt x h3 _ xr hlenx (Nat.le_trans (Nat.le_trans hbase h1.size) h2.size) h4
          rw [hfi, HEX.out] at this
          exact this
        clear HGS hfi HFI HPUT
        go_wp2
        go_region_with (first
          | (go_at_call 244
             refine (HPART.out _ (by first | exact HALLOC.out | exact HALLOC.out.drew | exact HALLOC.out.drew.drew) i hlt).mono ?_
             rintro e w2 ⟨ya, ym, yc, rfl, hpp, hb2⟩
             have HPP := hide hpp
             have HB2 := hide hb2
             have HB2R : Hid (Below wr.heap.size wr w2) := Below.trans (by first | exact below1 wr _ | exact (below1 wr _).drew | exact (below1 wr _).drew.drew) (hb2.mono (by simp))
             have k2 := (hb2.block _ (ltOf hnew.out)).trans hnew.out
             have l0 := cellOf (j := 0) k2 rfl
             have l1 := cellOf (j := 1) k2 rfl
             have l2 := cellOf (j := 2) k2 rfl
             clear hpp hb2 k2)
          | (go_at_call 177
             refine (HPUT'.out _ _ (by first | exact HALLOC.out | exact HALLOC.out.drew | exact HALLOC.out.drew.drew) (by first | exact HB2.out | exact HB2.out.drew) _ HPP.out (ownsRow_below ((HOR.out.alloc _)) (by first | exact HB2.out | exact HB2.out.drew | exact (below_drew _).trans HB2.out | exact Below.drew ((below_drew _).trans HB2.out)))).mono ?_
             rintro e w3 ⟨ov3, rfl, ho3, hout3⟩
             have HO3 := hide ho3
             have HOUT3 : Hid (Outs w1 w3 ov ov3) := (HOUT.out.below (by first | exact HB2R.out | exact HB2R.out.drew)).trans hout3
             clear ho3 hout3))
        all_goals go_wp2
        all_goals go_roundw
        all_goals try (case rel => exact ⟨i + 1, o, by go_num, by omega, by omega, by omega, HR, HO3, by first | exact HOUT3 | exact HOUT3.out.below (below_drew _)⟩)
        all_goals try (case measure => simp [intOf]; omega)
    · have hie : i = ln := by omega
      have HR : Hid (TOT = some xr) := by
        show _ = _
        rw [← HG.out, hie, Nat.sub_self, goE]
      have HIE := hide hie
      clear hie HG
      go_wp2
      go_ret2
      rw [HR.out]
      exact ⟨_, ret_two (by rw [Bool.eq_iff_iff]; simp; omega), HOR.out, Outs.from HB1.out HOUT.out⟩
end Go.Proofs.YtlghcldiboecoaaGreatDoor

/- put, whole. -/
set_option linter.unusedVariables false
namespace Go.Proofs.YtlghcldiboecoaaGreatDoor
open Go.RowKit

def zV : Orch.V := .mk 0 ⟨#[]⟩ []

theorem goE_putE (g : List UInt8 → Orch.Ty → Orch.V → Option (List UInt8)) (t : Orch.Ty) (vs : List Orch.V) : ∀ n i o, n + i = vs.length →
    goE (fun i ys => g ys (Orch.part t i) (vs.getD i zV)) n i o = Orch.putE g t (vs.drop i) i o := by
  intro n
  induction n with
  | zero => intro i o h; rw [List.drop_of_length_le (by omega)]; rfl
  | succ n ih =>
    intro i o h
    have hi : i < vs.length := by omega
    rw [goE, List.drop_eq_getElem_cons hi, Orch.putE, getD_lt _ _ _ hi]
    cases g o (Orch.part t i) vs[i] with
    | none => rfl
    | some o' => exact ih (i + 1) o' (by omega)

theorem put_len (valid : ByteArray → Bool) : ∀ k xs t v o, Orch.put valid k xs t v = some o → o.length ≤ 1000 := by
  intro k
  cases k with
  | zero => intro xs t v o h; simp [Orch.put] at h
  | succ k =>
    intro xs t v o h
    unfold Orch.put at h
    split at h
    · split at h
      · cases h
      · split at h
        · injection h with h; subst h; assumption
        · cases h
    · cases h

theorem VsAt.fam {w : World} {S : Nat → Prop} {vs : List Orch.V} {v : Value} (h : VsAt w S vs v) : ∃ ex : Nat → Value, ∀ i (hi : i < vs.length),
    ∃ g cap, v = .slice (some ⟨g, 0, none⟩) vs.length cap ∧ vs.length ≤ cap ∧ S g ∧ VsAt w S vs[i].l (ex i) ∧ ∀ j u, (vcell (vs[i], ex i))[j]? = some u → w.cell? ⟨g, i * 3 + j, none⟩ = some u := by
  cases h with
  | nil a c => exact ⟨fun _ => .slice none 0 0, fun i hi => by simp at hi⟩
  | row ps g cap h0 hcap hS hc hr =>
    refine ⟨fun i => (ps.getD i (zV, .slice none 0 0)).2, fun i hi => ?_⟩
    have hi' : i < ps.length := by simpa using hi
    have eg : ps.getD i (zV, .slice none 0 0) = ps[i] := getD_lt _ _ _ hi'
    simp only [eg]
    refine ⟨g, cap, by rw [List.length_map], by rw [List.length_map]; exact hcap, hS, ?_, fun j u hu => ?_⟩
    · rw [List.getElem_map]; exact hr _ (List.getElem_mem hi')
    · refine hc _ u ?_
      have hj : j < 3 := by
        have := (List.getElem?_eq_some_iff.1 hu).1
        rwa [vcell_len] at this
      rw [flat_get vcell 3 vcell_len ps i j hj, List.getElem?_eq_getElem hi', Option.bind_some]
      rw [List.getElem_map] at hu
      exact hu

def PuSaid (valid : ByteArray → Bool) (Tabs : World → Prop) (k : Nat) : Prop := ∀ (w : World), Tabs w → ∀ (base : Nat), gTop ≤ base → base ≤ w.heap.size → ∀ (t : Orch.Ty), okT k t → ∀ (psv : Value), TsAt w (fun b => b < base) t.ps psv → ∀ (v : Orch.V) (lv : Value), VsAt w (fun b => b < base) v.l lv → ∀ (ov : Value) (xs : List UInt8), xs.length ≤ 1000 + 4 * (10 - k) → w.ownsRow base 5 1 ov xs.length (bcells xs) →
  Calls Tryz.prog 177 #[ov, tval t.l psv, vval v lv] w fun e w' => puRes base w w' ov e (Orch.put valid k xs t v)

theorem grown_of_below {w w' : World} {r : Option Nat} (h : Below w.heap.size w w') : w.grownBy w' r := ⟨h.os, h.tape, h.output, h.size, fun k hk _ => h.block k hk⟩

theorem str_cells (s : ByteArray) : Lib.strCells s = bcells s.data.toList := rfl

def cutO : Option (List UInt8) → Option (List UInt8)
  | none => none
  | some o => if o.length ≤ 1000 then some o else none

theorem put_eq (valid : ByteArray → Bool) (k : Nat) (xs : List UInt8) (t : Orch.Ty) (v : Orch.V) : Orch.put valid (k + 1) xs t v = if Orch.fits valid t v then cutO (Orch.putE (Orch.put valid k) t v.l 0 (xs ++ Orch.head t v)) else none := by
  rw [Orch.put]
  split
  · cases Orch.putE (Orch.put valid k) t v.l 0 (xs ++ Orch.head t v) <;> rfl
  · rfl

/-- Behind the elements: too long or not. -/
theorem pu_end {base : Nat} {w w' : World} {ov : Value} {e : Ending} {o : Option (List UInt8)} (h : puEnd base w w' ov e o) :
    puRes base w w' ov e (cutO o) := by
  cases o with
  | none => exact h
  | some o =>
    obtain ⟨ov', rfl, ho, hout⟩ := h
    by_cases hl : o.length ≤ 1000
    · rw [cutO, if_pos hl, decide_eq_true hl]
      exact ⟨ov', rfl, ho, hout⟩
    · rw [cutO, if_neg hl, decide_eq_false hl]
      obtain ⟨a, c, rfl⟩ := own_shape ho
      exact ⟨⟨_, _, _, rfl⟩, hout.grown⟩

section
variable {valid : ByteArray → Bool} {Tabs : World → Prop}

theorem pu_succ (U : Utf valid Tabs) (k : Nat) (hk : k + 1 ≤ 9) (ih : PuSaid valid Tabs k) : PuSaid valid Tabs (k + 1) := by
  intro w hT base hb3 hbase t hok psv hts v lv hvs ov xs hxl hown
  obtain ⟨pa, pc, rfl⟩ := hts.shape
  obtain ⟨la, lc, rfl⟩ := hvs.shape
  have hF : ∀ W, Below w.heap.size w W → Calls Tryz.prog 243 #[tval t.l (.slice pa t.ps.length pc), vval v (.slice la v.l.length lc)] W fun e w' => e = .returned (.bool (Orch.fits valid t v)) ∧ Below W.heap.size W w' := fun W hb => fits_any U W (U.kept (U.size hT) hb hT) t hok pa pc v la lc
  rw [put_eq]
  cases hfit : Orch.fits valid t v with
  | false =>
    rw [hfit] at hF
    simp only [Bool.false_eq_true, if_false]
    refine (put_unfit w ov _ _ _ _ _ _ _ pa _ pc _ _ la _ lc hF).mono ?_
    rintro e w' ⟨hn, hb⟩
    exact ⟨hn, grown_of_below hb⟩
  | true =>
    rw [hfit] at hF
    simp only [if_true]
    have hlow : ∀ W, Below base w W → Tabs W := fun W h => U.kept hb3 h hT
    rcases letters_shape hok.1 with h | h | h | h
    · have hl0 : v.l = [] := by
        simp only [Orch.fits, h, Bool.and_eq_true, decide_eq_true_eq] at hfit
        exact List.length_eq_zero_iff.1 hfit.2
      have hhead : Orch.head t v = Orch.be v.n t.l.size := by simp [Orch.head, h]
      have hsz := letters_size hok.1 h
      rw [hhead, hl0, Orch.putE]
      rw [hl0] at hF
      simp only [tval, h, List.length_nil] at hF ⊢
      refine (put_0 w base ov xs (by omega) hown hbase _ _ (by omega) _ _ _ _ pa _ pc _ _ la lc hF).mono ?_
      rintro e w' ⟨ov', rfl, ho, hout⟩
      exact pu_end (o := some (xs ++ Orch.be v.n t.l.size)) ⟨ov', rfl, ho, hout⟩
    · have hfit' := hfit
      simp only [Orch.fits, h, Bool.and_eq_true, decide_eq_true_eq] at hfit'
      have hl0 : v.l = [] := List.length_eq_zero_iff.1 hfit'.2
      have hs200 : v.s.size ≤ 200 := hfit'.1.2.1
      have hhead : Orch.head t v = Orch.be v.s.size 4 ++ v.s.data.toList := by simp [Orch.head, h]
      rw [hhead, hl0, Orch.putE]
      rw [hl0] at hF
      simp only [tval, h, List.length_nil] at hF ⊢
      refine (put_1 w base ov xs (by omega) hown hbase _ _ _ _ _ _ pa _ pc _ _ hs200 la lc hF).mono ?_
      rintro e w' ⟨ov', rfl, ho, hout⟩
      have hlen : (xs ++ (Orch.be v.s.size 4 ++ v.s.data.toList)).length = (xs ++ Orch.be v.s.size 4).length + v.s.size := by
        rw [← List.append_assoc, List.length_append, ← Lib.size_eq]
      refine pu_end (o := some (xs ++ (Orch.be v.s.size 4 ++ v.s.data.toList))) ⟨ov', by rw [hlen], ?_, hout⟩
      rw [hlen, ← List.append_assoc, bcells_append]
      exact ho
    · have hfit' := hfit
      simp only [Orch.fits, h, Bool.and_eq_true, decide_eq_true_eq] at hfit'
      have hll : v.l.length ≤ 32 := hfit'.2
      have hhead : Orch.head t v = Orch.be v.l.length 4 := by simp [Orch.head, h]
      obtain ⟨ex, hex⟩ := hvs.fam
      have hg := goE_putE (Orch.put valid k) t v.l v.l.length 0 (xs ++ Orch.be v.l.length 4) (by omega)
      rw [List.drop_zero] at hg
      rw [hhead]
      have hO : (xs ++ Orch.be v.l.length 4).length = xs.length + 4 := by rw [List.length_append, Orch.be_length]
      have hpart : ∀ W, Below base w W → ∀ i, i < v.l.length → Calls Tryz.prog 244 #[tval t.l (.slice pa t.ps.length pc), .int .i64 i] W fun e w' => ∃ xa xm xc, e = .returned (tval (Orch.part t i).l (.slice xa xm xc)) ∧ TsAt W (fun b => b < base) (Orch.part t i).ps (.slice xa xm xc) ∧ Below W.heap.size W w' := fun W hb i hi =>
        (part_any W (fun b => b < base) t hok _ (hts.congr (fun _ h' => h') (fun b hb' => hb.block b hb')) (fun b hb' => Nat.lt_of_lt_of_le hb' (Nat.le_trans hbase hb.size)) i (Or.inl h)).mono (by
          rintro e w' ⟨x, rfl, hx, hb'⟩
          obtain ⟨xa, xc, rfl⟩ := hx.shape
          exact ⟨xa, _, xc, rfl, hx, hb'⟩)
      simp only [tval, h] at hF hpart ⊢
      refine (put_2 w base ov xs (by omega) hown hbase _ _ _ _ _ _ pa _ pc v.n v.s la v.l.length lc (by omega) (1000 + 4 * (10 - k)) (by omega) (by omega) (xs ++ Orch.be v.l.length 4) rfl (fun i ys => Orch.put valid k ys (Orch.part t i) (v.l.getD i zV)) _ hg
        (fun i => v.l.getD i zV) ex (fun W hb i hi => ?_) (fun i => (Orch.part t i).l) (fun i W x => TsAt W (fun b => b < base) (Orch.part t i).ps x) hpart
        (fun W0 W hb0 hbW i hi x hx ou ys hys hbs hoy => ?_) (fun i ys o ho => put_len valid _ _ _ _ _ ho) (Or.inl (by omega)) (by omega) hF).mono (fun e w' he => pu_end he)
      · obtain ⟨g, cap, hla, hlc, hgb, hxs, hcell⟩ := hex i hi
        obtain ⟨xa, xc, hxe⟩ := hxs.shape
        simp only [Value.slice.injEq] at hla
        obtain ⟨rfl, _, rfl⟩ := hla
        rw [getD_lt _ _ _ hi]
        exact ⟨g, xa, _, xc, rfl, Nat.lt_of_lt_of_le hgb (Nat.le_trans hbase hb.size), hlc, hxe, (hb.cell (p := ⟨g, i * 3, none⟩) hgb).trans (hcell 0 _ rfl), (hb.cell (p := ⟨g, i * 3 + 1, none⟩) hgb).trans (hcell 1 _ rfl), (hb.cell (p := ⟨g, i * 3 + 2, none⟩) hgb).trans (hcell 2 _ rfl)⟩
      · obtain ⟨g, cap, hla, hlc, hgb, hxs, hcell⟩ := hex i hi
        have hbw : Below base w W := hb0.trans (hbW.mono (Nat.le_trans hbase hb0.size))
        have hv' : VsAt W (fun b => b < base) (v.l.getD i zV).l (ex i) := by
          rw [getD_lt _ _ _ hi]
          exact hxs.congr (fun _ h' => h') (fun b hb' => hbw.block b hb')
        exact ih W (hlow W hbw) base hb3 hbs (Orch.part t i) (part_ok hok i (Or.inl h)) x (hx.congr (fun _ h' => h') (fun b hb' => hbW.block b (Nat.lt_of_lt_of_le hb' (Nat.le_trans hbase hb0.size)))) _ _ hv' ou ys hys hoy
    · have hfit' := hfit
      simp only [Orch.fits, h, Bool.and_eq_true, decide_eq_true_eq] at hfit'
      have hll : v.l.length = t.ps.length := hfit'.2
      have h64 := hok.2.2.1
      have hhead : Orch.head t v = [] := by simp [Orch.head, h]
      obtain ⟨ex, hex⟩ := hvs.fam
      have hg := goE_putE (Orch.put valid k) t v.l v.l.length 0 xs (by omega)
      rw [List.drop_zero] at hg
      rw [hhead, List.append_nil]
      have hpart : ∀ W, Below base w W → ∀ i, i < v.l.length → Calls Tryz.prog 244 #[tval t.l (.slice pa t.ps.length pc), .int .i64 i] W fun e w' => ∃ xa xm xc, e = .returned (tval (Orch.part t i).l (.slice xa xm xc)) ∧ TsAt W (fun b => b < base) (Orch.part t i).ps (.slice xa xm xc) ∧ Below W.heap.size W w' := fun W hb i hi =>
        (part_any W (fun b => b < base) t hok _ (hts.congr (fun _ h' => h') (fun b hb' => hb.block b hb')) (fun b hb' => Nat.lt_of_lt_of_le hb' (Nat.le_trans hbase hb.size)) i (Or.inr ⟨h, by omega⟩)).mono (by
          rintro e w' ⟨x, rfl, hx, hb'⟩
          obtain ⟨xa, xc, rfl⟩ := hx.shape
          exact ⟨xa, _, xc, rfl, hx, hb'⟩)
      simp only [tval, h] at hF hpart ⊢
      refine (put_3 w base ov xs (by omega) hown hbase _ _ _ _ _ _ pa _ pc v.n v.s la v.l.length lc (by omega) (1000 + 4 * (10 - k)) (by omega) (by omega) xs rfl (fun i ys => Orch.put valid k ys (Orch.part t i) (v.l.getD i zV)) _ hg
        (fun i => v.l.getD i zV) ex (fun W hb i hi => ?_) (fun i => (Orch.part t i).l) (fun i W x => TsAt W (fun b => b < base) (Orch.part t i).ps x) hpart
        (fun W0 W hb0 hbW i hi x hx ou ys hys hbs hoy => ?_) (fun i ys o ho => put_len valid _ _ _ _ _ ho) (Or.inl (by omega)) (by omega) hF).mono (fun e w' he => pu_end he)
      · obtain ⟨g, cap, hla, hlc, hgb, hxs, hcell⟩ := hex i hi
        obtain ⟨xa, xc, hxe⟩ := hxs.shape
        simp only [Value.slice.injEq] at hla
        obtain ⟨rfl, _, rfl⟩ := hla
        rw [getD_lt _ _ _ hi]
        exact ⟨g, xa, _, xc, rfl, Nat.lt_of_lt_of_le hgb (Nat.le_trans hbase hb.size), hlc, hxe, (hb.cell (p := ⟨g, i * 3, none⟩) hgb).trans (hcell 0 _ rfl), (hb.cell (p := ⟨g, i * 3 + 1, none⟩) hgb).trans (hcell 1 _ rfl), (hb.cell (p := ⟨g, i * 3 + 2, none⟩) hgb).trans (hcell 2 _ rfl)⟩
      · obtain ⟨g, cap, hla, hlc, hgb, hxs, hcell⟩ := hex i hi
        have hbw : Below base w W := hb0.trans (hbW.mono (Nat.le_trans hbase hb0.size))
        have hv' : VsAt W (fun b => b < base) (v.l.getD i zV).l (ex i) := by
          rw [getD_lt _ _ _ hi]
          exact hxs.congr (fun _ h' => h') (fun b hb' => hbw.block b hb')
        exact ih W (hlow W hbw) base hb3 hbs (Orch.part t i) (part_ok hok i (Or.inr ⟨h, by omega⟩)) x (hx.congr (fun _ h' => h') (fun b hb' => hbW.block b (Nat.lt_of_lt_of_le hb' (Nat.le_trans hbase hb0.size)))) _ _ hv' ou ys hys hoy

theorem pu_all (U : Utf valid Tabs) : ∀ k, k ≤ 9 → PuSaid valid Tabs k := by
  intro k
  induction k with
  | zero => intro _ w _ base _ _ t hok; exact absurd hok (by simp [okT])
  | succ k ih => intro h; exact pu_succ U k h (ih (by omega))
end
end Go.Proofs.YtlghcldiboecoaaGreatDoor

/- Encode, whole. -/
set_option linter.unusedVariables false
namespace Go.Proofs.YtlghcldiboecoaaGreatDoor
open Go.RowKit

def veRes (w w' : World) (e : Ending) : Option (List UInt8) → Prop
  | none => e = .returned (.tuple #[.slice none 0 0, .bool false])
  | some o => ∃ ov, e = .returned (.tuple #[ov, .bool true]) ∧ w'.ownsRow w.heap.size 5 1 ov o.length (bcells o)

set_option maxRecDepth 8000 in
set_option maxHeartbeats 400000 in
theorem ve_none (w : World) (sg sh sz : Nat) (lo hi : Int) (tx : Bool) (fn : Nat) (pa : Option Addr) (pn pc : Nat) (vn : Int) (vs : ByteArray) (la : Option Addr) (ln lc : Nat)
    (HP : Hid (∀ W, Below w.heap.size w W → Calls Tryz.prog 177 #[.slice none 0 0, tyv sg sh sz lo hi tx fn (.slice pa pn pc), vv vn vs (.slice la ln lc)] W fun e w' => (∃ a m c, e = .returned (.tuple #[.slice a m c, .bool false])) ∧ Below W.heap.size W w')) :
    Calls Tryz.prog 130 #[tyv sg sh sz lo hi tx fn (.slice pa pn pc), vv vn vs (.slice la ln lc)] w fun e w' => veRes w w' e none ∧ Below w.heap.size w w' := by
  go_enter Tryz.func130, Tryz.ntmps130
  go_wp2_with (go_at_call 177; refine (HP.out _ (below2 _ _ _)).mono ?_; rintro e w1 ⟨⟨a, m, c, rfl⟩, hb1⟩; have HB1 : Hid (Below w.heap.size w w1) := (below2 _ _ _).trans (hb1.mono (by simp; omega)); clear hb1)
  go_ret2
  exact ⟨rfl, HB1.out⟩

set_option maxRecDepth 8000 in
set_option maxHeartbeats 400000 in
theorem ve_some (w : World) (sg sh sz : Nat) (lo hi : Int) (tx : Bool) (fn : Nat) (pa : Option Addr) (pn pc : Nat) (vn : Int) (vs : ByteArray) (la : Option Addr) (ln lc : Nat) (q : Value → World → Prop)
    (HP : Hid (∀ W, Below w.heap.size w W → Calls Tryz.prog 177 #[.slice none 0 0, tyv sg sh sz lo hi tx fn (.slice pa pn pc), vv vn vs (.slice la ln lc)] W fun e w' => (∃ ov, e = .returned (.tuple #[ov, .bool true]) ∧ q ov w') ∧ Below W.heap.size W w')) :
    Calls Tryz.prog 130 #[tyv sg sh sz lo hi tx fn (.slice pa pn pc), vv vn vs (.slice la ln lc)] w fun e w' => (∃ ov, e = .returned (.tuple #[ov, .bool true]) ∧ q ov w') ∧ Below w.heap.size w w' := by
  go_enter Tryz.func130, Tryz.ntmps130
  go_wp2_with (go_at_call 177; refine (HP.out _ (below2 _ _ _)).mono ?_; rintro e w1 ⟨⟨ov, rfl, hq⟩, hb1⟩; have HQ := hide hq; have HB1 : Hid (Below w.heap.size w w1) := (below2 _ _ _).trans (hb1.mono (by simp; omega)); clear hb1 hq)
  go_ret2
  exact ⟨⟨_, rfl, HQ.out⟩, HB1.out⟩

/-- What Encode leaves. -/
def eRes (w w' : World) (e : Ending) : Except Nat (List UInt8) → Prop
  | .error c => e = .returned (.tuple #[.slice none 0 0, .int .i64 c])
  | .ok b => ∃ ov, e = .returned (.tuple #[ov, .int .i64 0]) ∧ w'.ownsRow w.heap.size 5 1 ov b.length (bcells b)

set_option maxRecDepth 8000 in
set_option maxHeartbeats 400000 in
theorem e_schema (w : World) (str : ByteArray) (vn : Int) (vs : ByteArray) (la : Option Addr) (ln lc : Nat)
    (HC : Hid (∀ W, Below w.heap.size w W → Calls Tryz.prog 129 #[.string str] W fun e w' => parseRes W w' e none ∧ Below W.heap.size W w')) :
    Calls Tryz.prog 82 #[.string str, vv vn vs (.slice la ln lc)] w fun e w' => eRes w w' e (.error 1) ∧ Below w.heap.size w w' := by
  go_enter Tryz.func82, Tryz.ntmps82
  go_wp2_with (go_at_call 129; refine (HC.out _ (below1 _ _)).mono ?_; rintro e w1 ⟨⟨sg, sh, sz, lo, hi, tx, fn, p, m, n, rfl⟩, hb1⟩; have HB1 : Hid (Below w.heap.size w w1) := (below1 _ _).trans (hb1.mono (by simp)); clear hb1)
  go_ret2
  exact ⟨rfl, HB1.out.alloc HB1.out.size _⟩

set_option maxRecDepth 8000 in
set_option maxHeartbeats 400000 in
theorem e_value (w : World) (str : ByteArray) (vn : Int) (vs : ByteArray) (la : Option Addr) (ln lc : Nat) (sg sh sz : Nat) (lo hi : Int) (tx : Bool) (fn : Nat) (q : Option Addr → Nat → Nat → World → Prop)
    (HC : Hid (∀ W, Below w.heap.size w W → Calls Tryz.prog 129 #[.string str] W fun e w' => (∃ p m n, e = .returned (.tuple #[tyv sg sh sz lo hi tx fn (.slice p m n), .bool true]) ∧ q p m n w') ∧ Below W.heap.size W w'))
    (HE : Hid (∀ wb W p m n, q p m n wb → Below wb.heap.size wb W → Below w.heap.size w W → Calls Tryz.prog 130 #[tyv sg sh sz lo hi tx fn (.slice p m n), vv vn vs (.slice la ln lc)] W fun e w' => e = .returned (.tuple #[.slice none 0 0, .bool false]) ∧ Below W.heap.size W w')) :
    Calls Tryz.prog 82 #[.string str, vv vn vs (.slice la ln lc)] w fun e w' => eRes w w' e (.error 2) ∧ Below w.heap.size w w' := by
  have N0 := hide (heap_alloc_new w (.cells #[.int .i64 vn, .string vs, .slice la ln lc] 113))
  go_enter Tryz.func82, Tryz.ntmps82
  go_wp2_with (first
    | (go_at_call 129; refine (HC.out _ (below1 _ _)).mono ?_; rintro e w1 ⟨⟨p, m, n, rfl, hq⟩, hb1⟩; have HQ := hide hq; have HB1 : Hid (Below w.heap.size w w1) := (below1 _ _).trans (hb1.mono (by simp)); have m0 := (hb1.block _ (ltOf N0.out)).trans N0.out; have hlt0 := ltOf m0; have b0 := cellOf (j := 0) m0 rfl; have b1 := cellOf (j := 1) m0 rfl; have b2 := cellOf (j := 2) m0 rfl; clear hb1 hq m0)
    | (go_at_call 130; refine (HE.out w1 _ p m n HQ.out (below1 _ _) (HB1.out.alloc HB1.out.size _)).mono ?_; rintro e w2 ⟨rfl, hb2⟩; have HB2 : Hid (Below w.heap.size w w2) := (HB1.out.alloc HB1.out.size _).trans (hb2.mono (by have := HB1.out.size; simp; omega)); clear hb2))
  go_ret2
  exact ⟨rfl, HB2.out⟩

set_option maxRecDepth 8000 in
set_option maxHeartbeats 400000 in
theorem e_ok (w : World) (str : ByteArray) (vn : Int) (vs : ByteArray) (la : Option Addr) (ln lc : Nat) (sg sh sz : Nat) (lo hi : Int) (tx : Bool) (fn : Nat) (q : Option Addr → Nat → Nat → World → Prop) (r : World → Value → World → Prop)
    (HC : Hid (∀ W, Below w.heap.size w W → Calls Tryz.prog 129 #[.string str] W fun e w' => (∃ p m n, e = .returned (.tuple #[tyv sg sh sz lo hi tx fn (.slice p m n), .bool true]) ∧ q p m n w') ∧ Below W.heap.size W w'))
    (HE : Hid (∀ wb W p m n, q p m n wb → Below wb.heap.size wb W → Below w.heap.size w W → Calls Tryz.prog 130 #[tyv sg sh sz lo hi tx fn (.slice p m n), vv vn vs (.slice la ln lc)] W fun e w' => (∃ ov, e = .returned (.tuple #[ov, .bool true]) ∧ r W ov w') ∧ Below W.heap.size W w')) :
    Calls Tryz.prog 82 #[.string str, vv vn vs (.slice la ln lc)] w fun e w' => (∃ ov W, e = .returned (.tuple #[ov, .int .i64 0]) ∧ r W ov w' ∧ w.heap.size ≤ W.heap.size) ∧ Below w.heap.size w w' := by
  have N0 := hide (heap_alloc_new w (.cells #[.int .i64 vn, .string vs, .slice la ln lc] 113))
  go_enter Tryz.func82, Tryz.ntmps82
  go_wp2_with (first
    | (go_at_call 129; refine (HC.out _ (below1 _ _)).mono ?_; rintro e w1 ⟨⟨p, m, n, rfl, hq⟩, hb1⟩; have HQ := hide hq; have HB1 : Hid (Below w.heap.size w w1) := (below1 _ _).trans (hb1.mono (by simp)); have m0 := (hb1.block _ (ltOf N0.out)).trans N0.out; have hlt0 := ltOf m0; have b0 := cellOf (j := 0) m0 rfl; have b1 := cellOf (j := 1) m0 rfl; have b2 := cellOf (j := 2) m0 rfl; clear hb1 hq m0)
    | (go_at_call 130; refine (HE.out w1 _ p m n HQ.out (below1 _ _) (HB1.out.alloc HB1.out.size _)).mono ?_; rintro e w2 ⟨⟨ov, rfl, hr⟩, hb2⟩; have HR := hide hr; have HB2 : Hid (Below w.heap.size w w2) := (HB1.out.alloc HB1.out.size _).trans (hb2.mono (by have := HB1.out.size; simp; omega)); clear hb2 hr))
  go_ret2
  exact ⟨⟨_, _, rfl, HR.out, by have := HB1.out.size; simp; omega⟩, HB2.out⟩

section
variable {valid : ByteArray → Bool} {Tabs : World → Prop}

theorem ve_any (U : Utf valid Tabs) (w : World) (hT : Tabs w) (t : Orch.Ty) (hok : okT 9 t) (S : Nat → Prop) (psv : Value) (hts : TsAt w S t.ps psv) (v : Orch.V) (lv : Value) (hvs : VsAt w S v.l lv) (hS : ∀ b, S b → b < w.heap.size) :
    Calls Tryz.prog 130 #[tval t.l psv, vval v lv] w fun e w' => veRes w w' e (Orch.put valid 9 [] t v) ∧ Below w.heap.size w w' := by
  obtain ⟨pa, pc, rfl⟩ := hts.shape
  obtain ⟨la, lc, rfl⟩ := hvs.shape
  have hp : ∀ W, Below w.heap.size w W → Calls Tryz.prog 177 #[.slice none 0 0, tval t.l (.slice pa t.ps.length pc), vval v (.slice la v.l.length lc)] W fun e w' => puRes W.heap.size W w' (.slice none 0 0) e (Orch.put valid 9 [] t v) := fun W hb =>
    pu_all U 9 (by omega) W (U.kept (U.size hT) hb hT) W.heap.size (Nat.le_trans (U.size hT) hb.size) (Nat.le_refl _) t hok _ (hts.congr (fun b h => Nat.lt_of_lt_of_le (hS b h) hb.size) (fun b h => hb.block b (hS b h))) v _ (hvs.congr (fun b h => Nat.lt_of_lt_of_le (hS b h) hb.size) (fun b h => hb.block b (hS b h))) _ [] (by simp) (World.ownsRow_nil _ _ _ _)
  cases hq : Orch.put valid 9 [] t v with
  | none =>
    rw [hq] at hp
    refine ve_none w _ _ _ _ _ _ _ pa _ pc _ _ la _ lc (fun W hb => (hp W hb).mono ?_)
    rintro e w' ⟨he, hg⟩
    exact ⟨he, hg.os, hg.tape, hg.output, hg.size, fun k hk => hg.block k hk (by simp [Value.ownBlock])⟩
  | some o =>
    rw [hq] at hp
    refine (ve_some w _ _ _ _ _ _ _ pa _ pc _ _ la _ lc (fun ov w' => w'.ownsRow w.heap.size 5 1 ov o.length (bcells o)) (fun W hb => (hp W hb).mono ?_)).mono (fun e w' h => h)
    rintro e w' ⟨ov, rfl, ho, hout⟩
    have hg := hout.grown
    refine ⟨⟨ov, rfl, ⟨ho.1, ?_⟩⟩, hg.os, hg.tape, hg.output, hg.size, fun k hk => hg.block k hk (by simp [Value.ownBlock])⟩
    rcases ho.2 with h | ⟨g, cap, cur, h1, h2, h3⟩
    · exact Or.inl h
    · exact Or.inr ⟨g, cap, cur, h1, Nat.le_trans hb.size h2, h3⟩

/-- Encode: every text, every value. -/
theorem encode_any (U : Utf valid Tabs) (w : World) (hT : Tabs w) (hL : Table w) (str : ByteArray) (v : Orch.V) (S : Nat → Prop) (lv : Value) (hvs : VsAt w S v.l lv) (hS : ∀ b, S b → b < w.heap.size) :
    Calls Tryz.prog 82 #[.string str, vval v lv] w fun e w' => eRes w w' e (Orch.encode valid str.data.toList v) ∧ Below w.heap.size w w' := by
  obtain ⟨la, lc, rfl⟩ := hvs.shape
  have hp : ∀ W, Below w.heap.size w W → Calls Tryz.prog 129 #[.string str] W fun e w' => parseRes W w' e (Orch.parse str.data.toList) ∧ Below W.heap.size W w' := fun W hb => parse_any W str (hL.below hb hL.pos)
  unfold Orch.encode
  cases hq : Orch.parse str.data.toList with
  | none =>
    rw [hq] at hp
    exact e_schema w str _ _ la _ lc hp
  | some t =>
    have hok := parse_ok hq
    rw [hq] at hp
    have hp' : ∀ W, Below w.heap.size w W → Calls Tryz.prog 129 #[.string str] W fun e w' => (∃ p m n, e = .returned (.tuple #[tyv t.l.sign.toNat t.l.shape t.l.size t.l.least t.l.most t.l.text t.l.fin.toNat (.slice p m n), .bool true]) ∧ TsAt w' (fun b => b < w'.heap.size) t.ps (.slice p m n)) ∧ Below W.heap.size W w' := fun W hb => (hp W hb).mono (by
      rintro e w' ⟨⟨psv, rfl, hts⟩, hb'⟩
      obtain ⟨pa, pc, rfl⟩ := hts.shape
      exact ⟨⟨pa, _, pc, rfl, hts.congr (fun b hb => hb.2) (fun _ _ => rfl)⟩, hb'⟩)
    have he : ∀ wb W p m n, TsAt wb (fun b => b < wb.heap.size) t.ps (.slice p m n) → Below wb.heap.size wb W → Below w.heap.size w W → Calls Tryz.prog 130 #[tval t.l (.slice p m n), vval v (.slice la v.l.length lc)] W fun e w' => veRes W w' e (Orch.put valid 9 [] t v) ∧ Below W.heap.size W w' := fun wb W p m n hts hbW hbw =>
      ve_any U W (U.kept (U.size hT) hbw hT) t hok (fun b => b < W.heap.size) _ (hts.congr (fun b h => Nat.lt_of_lt_of_le h hbW.size) (fun b hb => hbW.block b hb)) v _ (hvs.congr (fun b h => Nat.lt_of_lt_of_le (hS b h) hbw.size) (fun b h => hbw.block b (hS b h))) (fun _ h => h)
    simp only
    cases hu : Orch.put valid 9 [] t v with
    | none =>
      rw [hu] at he
      exact e_value w str _ _ la _ lc _ _ _ _ _ _ _ (fun p m n w' => TsAt w' (fun b => b < w'.heap.size) t.ps (.slice p m n)) hp' he
    | some b =>
      rw [hu] at he
      refine (e_ok w str _ _ la _ lc _ _ _ _ _ _ _ (fun p m n w' => TsAt w' (fun b => b < w'.heap.size) t.ps (.slice p m n)) (fun W ov w' => w'.ownsRow W.heap.size 5 1 ov b.length (bcells b)) hp' he).mono ?_
      rintro e w' ⟨⟨ov, W, rfl, ho, hs⟩, hb⟩
      refine ⟨⟨ov, rfl, ho.1, ?_⟩, hb⟩
      rcases ho.2 with h | ⟨g, cap, cur, h1, h2, h3⟩
      · exact Or.inl h
      · exact Or.inr ⟨g, cap, cur, h1, Nat.le_trans hs h2, h3⟩
end
end Go.Proofs.YtlghcldiboecoaaGreatDoor
