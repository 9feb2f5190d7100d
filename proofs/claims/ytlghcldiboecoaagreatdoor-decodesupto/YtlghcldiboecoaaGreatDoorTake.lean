/- Walks over numbers as bytes. -/
import Derived.Test.YtlghcldiboecoaaGreatDoorProg
import Derived.Test.YtlghcldiboecoaaGreatDoorPlain
import Derived.WalkKit
import Derived.WalkSpells
import Derived.WalkLawsBesides
import Derived.Handy
import Derived.Outline
import Derived.Laws.BitsAllLaws
import Derived.Deep.Light
import Derived.Lib.Strings
import Derived.Deep.AppendLies
import Derived.Deep.RegionWith
namespace Go.Proofs.YtlghcldiboecoaaGreatDoor
open Go.RowKit

/-- The bytes l lie in block b from off on. -/
def Bytes (w : World) (b off : Nat) (l : List UInt8) : Prop := ∀ i (h : i < l.length), w.cell? ⟨b, off + i, none⟩ = some (.int .u8 l[i].toNat)

theorem or_byte (X c : Nat) (hX : X < 72057594037927936) (hc : c < 256) : bits .or .u64 ((X : Int) * 256) (c : Int) = ((X * 256 + c : Nat) : Int) := by
  have e : ((X : Int) * 256) = ((X * 256 : Nat) : Int) := by omega
  rw [e, u64_or_nat _ _ (by omega) (by omega)]
  have := Nat.shiftLeft_add_eq_or_of_lt (i := 8) (b := c) (by omega) X
  rw [Nat.shiftLeft_eq] at this
  rw [← this]

theorem uns_snoc (l : List UInt8) (k : Nat) (h : k < l.length) : Orch.uns (l.take (k + 1)) = Orch.uns (l.take k) * 256 + l[k].toNat := by
  rw [List.take_succ_eq_append_getElem h]
  unfold Orch.uns
  rw [List.foldl_append]
  rfl

theorem ret_int {k : IntKind} {a b : Int} (h : a = b) : Ending.returned (.int k a) = .returned (.int k b) := by rw [h]
theorem val_int {k : IntKind} {a b : Int} (h : a = b) : Value.int k a = .int k b := by rw [h]

set_option maxHeartbeats 400000 in
theorem unsigned_any (w : World) (b off n cap : Nat) (l : List UInt8) (hn : l.length = n) (hl : n ≤ 8) (hb : Bytes w b off l) :
    Calls Tryz.prog 251 #[.slice (some ⟨b, off, none⟩) n cap] w fun e w' => e = .returned (.int .u64 (Orch.uns l)) ∧ w' = w := by
  subst hn
  go_enter Tryz.func251, Tryz.ntmps251
  go_wp2
  go_loop [3, 8] (fun x i => ∃ k : Nat, k ≤ l.length ∧ i = .int .i64 k ∧ x = .int .u64 (Orch.uns (l.take k))) (fun _ i => l.length - (intOf i).toNat)
  case atStart => exact ⟨0, Nat.zero_le _, rfl, rfl⟩
  case round =>
    obtain ⟨k, hk, rfl, rfl⟩ := hrel
    by_cases hlt : k < l.length
    · have hc := hb k hlt
      have HS : Hid (Orch.uns (l.take (k + 1)) = Orch.uns (l.take k) * 256 + l[k].toNat) := uns_snoc l k hlt
      have hk2 : Orch.uns (l.take k) < 256 ^ 7 := by
        have h1 := Orch.uns_lt (l.take k)
        have h2 : (l.take k).length ≤ 7 := by rw [List.length_take]; omega
        exact Nat.lt_of_lt_of_le h1 (Nat.pow_le_pow_right (by omega) h2)
      have h7 : (Orch.uns (l.take k) : Int) < 72057594037927936 := by
        have : (256 : Nat) ^ 7 = 72057594037927936 := by decide
        omega
      have hc8 : l[k].toNat < 256 := UInt8.toNat_lt _
      clear hk2
      generalize Orch.uns (l.take k) = X at *
      go_wp2
      go_round
      case rel => exact ⟨k + 1, by omega, by go_num, val_int (by rw [or_byte X _ (by omega) hc8, HS.out])⟩
      case measure => first | (simp [intOf]; done) | (simp [intOf]; omega)
    · go_wp2
      go_ret
      exact ⟨ret_int (by rw [List.take_of_length_le (by omega)]), rfl⟩

/-- What a sign-extending pair of shifts gives. -/
theorem sgn_of (l : List UInt8) (n : Nat) (hn : l.length = n) : Orch.sgn l = if 256 ^ n ≤ 2 * Orch.uns l then (Orch.uns l : Int) - 256 ^ n else Orch.uns l := by
  subst hn; rfl

set_option maxHeartbeats 400000 in
theorem signed_1 (w : World) (b off cap : Nat) (l : List UInt8) (hn : l.length = 1) (hb : Bytes w b off l) :
    Calls Tryz.prog 252 #[.slice (some ⟨b, off, none⟩) 1 cap] w fun e w' => e = .returned (.int .i64 (Orch.sgn l)) ∧ w' = w := by
  have cU := unsigned_any w b off 1 cap l hn (by omega) hb
  have hlt : (Orch.uns l : Int) < 256 := by
    have := Orch.uns_lt l
    rw [hn] at this
    omega
  have HG : Hid (Orch.sgn l = if 256 ^ 1 ≤ 2 * Orch.uns l then (Orch.uns l : Int) - 256 ^ 1 else (Orch.uns l : Int)) := sgn_of l 1 hn
  generalize Orch.uns l = X at *
  generalize Orch.sgn l = S at *
  go_enter Tryz.func252, Tryz.ntmps252
  go_wp2_with (go_at_call 251; refine cU.mono ?_; rintro e w' ⟨rfl, rfl⟩)
  go_ret
  refine ⟨ret_int ?_, rfl⟩
  rw [HG.out]
  unfold wrap64
  split <;> omega

set_option maxHeartbeats 400000 in
theorem signed_4 (w : World) (b off cap : Nat) (l : List UInt8) (hn : l.length = 4) (hb : Bytes w b off l) :
    Calls Tryz.prog 252 #[.slice (some ⟨b, off, none⟩) 4 cap] w fun e w' => e = .returned (.int .i64 (Orch.sgn l)) ∧ w' = w := by
  have cU := unsigned_any w b off 4 cap l hn (by omega) hb
  have hlt : (Orch.uns l : Int) < 4294967296 := by
    have := Orch.uns_lt l
    rw [hn] at this
    omega
  have HG : Hid (Orch.sgn l = if 256 ^ 4 ≤ 2 * Orch.uns l then (Orch.uns l : Int) - 256 ^ 4 else (Orch.uns l : Int)) := sgn_of l 4 hn
  generalize Orch.uns l = X at *
  generalize Orch.sgn l = S at *
  go_enter Tryz.func252, Tryz.ntmps252
  go_wp2_with (go_at_call 251; refine cU.mono ?_; rintro e w' ⟨rfl, rfl⟩)
  go_ret
  refine ⟨ret_int ?_, rfl⟩
  rw [HG.out]
  unfold wrap64
  split <;> omega

set_option maxHeartbeats 400000 in
theorem signed_8 (w : World) (b off cap : Nat) (l : List UInt8) (hn : l.length = 8) (hb : Bytes w b off l) :
    Calls Tryz.prog 252 #[.slice (some ⟨b, off, none⟩) 8 cap] w fun e w' => e = .returned (.int .i64 (Orch.sgn l)) ∧ w' = w := by
  have cU := unsigned_any w b off 8 cap l hn (by omega) hb
  have HL : Hid (Orch.uns l < 18446744073709551616) := by
    have := Orch.uns_lt l
    rw [hn] at this
    exact this
  have HG : Hid (Orch.sgn l = if 256 ^ 8 ≤ 2 * Orch.uns l then (Orch.uns l : Int) - 256 ^ 8 else (Orch.uns l : Int)) := sgn_of l 8 hn
  generalize Orch.uns l = X at *
  generalize Orch.sgn l = S at *
  go_enter Tryz.func252, Tryz.ntmps252
  go_wp2_with (go_at_call 251; refine cU.mono ?_; rintro e w' ⟨rfl, rfl⟩)
  go_ret
  refine ⟨ret_int ?_, rfl⟩
  rw [HG.out]
  have h1 := HL.out
  have e : IntKind.u64.wrap (X : Int) = (X : Int) := by
    simp [IntKind.wrap, IntKind.bits, IntKind.signed]; omega
  rw [e]
  unfold wrap64
  split <;> omega

def bcells (l : List UInt8) : List Value := l.map fun c => .int .u8 c.toNat

theorem bcells_append (a b : List UInt8) : bcells (a ++ b) = bcells a ++ bcells b := List.map_append

theorem be_take (n : Int) (m : Nat) : ∀ size, m + 1 ≤ size → (Orch.be n size).take (size - m) = (Orch.be n size).take (size - (m + 1)) ++ [UInt8.ofNat ((n / 256 ^ m) % 256).toNat] := by
  intro size
  induction size with
  | zero => intro h; omega
  | succ k ih =>
    intro h
    unfold Orch.be
    by_cases e : m = k
    · subst e
      rw [show m + 1 - m = 1 by omega, show m + 1 - (m + 1) = 0 by omega]
      rfl
    · rw [show k + 1 - m = (k - m) + 1 by omega, show k + 1 - (m + 1) = (k - (m + 1)) + 1 by omega, List.take_succ_cons, List.take_succ_cons, ih (by omega)]
      rfl

theorem byte_of (n : Int) (m : Nat) (hm : m ≤ 7) : IntKind.u64.wrap n / 2 ^ (8 * m) % 256 = ((UInt8.ofNat ((n / 256 ^ m) % 256).toNat).toNat : Int) := by
  have e : IntKind.u64.wrap n = n % 18446744073709551616 := by simp [IntKind.wrap, IntKind.bits, IntKind.signed]
  have f : ∀ q : Int, ((UInt8.ofNat (q % 256).toNat).toNat : Int) = q % 256 := fun q => by
    rw [UInt8.toNat_ofNat']
    omega
  rw [e, f]
  match m, hm with
  | 0, _ => simp
  | 1, _ => omega
  | 2, _ => omega
  | 3, _ => omega
  | 4, _ => omega
  | 5, _ => omega
  | 6, _ => omega
  | 7, _ => omega

theorem Tryz.info5 : (Tryz.prog.info? 5).map (fun i => (i.zero, i.size, i.bytes)) = some (some (.int .u8 0), 1, 1) := by kernel_rfl

set_option maxHeartbeats 400000 in
/-- number.Append: the bytes of the number behind those that are there. -/
theorem append_any (w : World) (base : Nat) (v : Value) (n : Int) (size : Nat) (xs : List UInt8) (hs : size ≤ 8)
    (hown : w.ownsRow base 5 1 v xs.length (bcells xs)) (hbase : base ≤ w.heap.size) (hx : xs.length ≤ 100000) :
    Calls Tryz.prog 181 #[v, .int .i64 n, .int .i64 size] w fun e w' => ∃ v', e = .returned v' ∧ w'.ownsRow base 5 1 v' (xs ++ Orch.be n size).length (bcells (xs ++ Orch.be n size)) ∧ Below base w w' := by
  obtain ⟨i0, hi, hz0, hz1, hz2⟩ := info_parts Tryz.info5
  go_enter Tryz.func181, Tryz.ntmps181
  go_wp2
  go_loopw [0, 7] (fun u i wr => ∃ j : Nat, j ≤ size ∧ i = .int .i64 ((j : Int) - 1) ∧ Hid (wr.ownsRow base 5 1 u (xs ++ (Orch.be n size).take (size - j)).length (bcells (xs ++ (Orch.be n size).take (size - j)))) ∧ Hid (Below base w wr))
    (fun _ i _ => (intOf i + 1).toNat)
  case atStart => exact ⟨size, Nat.le_refl _, rfl, by show World.ownsRow _ _ _ _ _ _ _; rw [Nat.sub_self]; simpa using hown, Below.refl _ _⟩
  case round =>
    obtain ⟨j, hj, rfl, ho, hbw⟩ := hrel
    cases j with
    | zero =>
      go_wp2
      go_ret
      have e : (Orch.be n size).take (size - 0) = Orch.be n size := by rw [List.take_of_length_le (by rw [Orch.be_length]; omega)]
      have h1 := ho.out
      rw [e] at h1
      exact ⟨_, rfl, h1, hbw.out⟩
    | succ m =>
      rw [show ((m + 1 : Nat) : Int) - 1 = (m : Int) by omega]
      have hl : (xs ++ (Orch.be n size).take (size - (m + 1))).length ≤ 100008 := by
        rw [List.length_append, List.length_take, Orch.be_length]; omega
      have HT : Hid (xs ++ (Orch.be n size).take (size - m) = (xs ++ (Orch.be n size).take (size - (m + 1))) ++ [UInt8.ofNat ((n / 256 ^ m) % 256).toNat]) := by
        show _ = _
        rw [be_take n m size hj, List.append_assoc]
      have HB : Hid (IntKind.u64.wrap n / 2 ^ (8 * m) % 256 = ((UInt8.ofNat ((n / 256 ^ m) % 256).toNat).toNat : Int)) := byte_of n m (by omega)
      generalize xs ++ (Orch.be n size).take (size - (m + 1)) = L at *
      go_wp2_with (at_builtin; refine wpList_append_own _ rfl _ _ 57 rfl base 5 i0 (.int .u8 0) 1 1 Tryz.underlying57 hi hz0 hz1 hz2 rfl (by decide) _ _ _ rfl (ho.out.alloc _) ⟨wr.heap.size, 0, none⟩ 1 1 [_] rfl rfl (cell_one_new _ _ _) ?c2 ?c3 ?c4 ?c5 ?_)
      case c2 => intro u hu; simp at hu; subst hu; rfl
      case c3 => unfold maxLen; omega
      case c4 => omega
      case c5 => have := hbw.out.size; simp; omega
      intro v' w1 hown' hgrow _
      have hb1 : Hid (Below base w w1) := (hbw.out.alloc (by have := hbw.out.size; omega) _).grown hgrow (by have := hbw.out.size; simp; omega) (fun k hk => (ho.out.lt k hk).1)
      have hown2 : Hid (w1.ownsRow base 5 1 v' (xs ++ (Orch.be n size).take (size - m)).length (bcells (xs ++ (Orch.be n size).take (size - m)))) := by
        show World.ownsRow _ _ _ _ _ _ _
        rw [HT.out, bcells_append]
        rw [HB.out] at hown'
        simpa [bcells] using hown'
      clear hown' hgrow
      go_wp2
      go_roundw
      case rel => exact ⟨m, by omega, by go_num, hown2, hb1⟩
      case measure => first | (simp [intOf]; done) | (simp [intOf]; omega)
#print axioms append_any
end Go.Proofs.YtlghcldiboecoaaGreatDoor

/- Walks of fits and what it calls. -/
set_option linter.unusedSimpArgs false
namespace Go.Proofs.YtlghcldiboecoaaGreatDoor
open Go.RowKit

abbrev ltv (sg sh sz lo hi : Int) (tx : Bool) (fn : Int) : Value := .agg #[.int .u8 sg, .int .i64 sh, .int .i64 sz, .int .i64 lo, .int .i64 hi, .bool tx, .int .u8 fn]
abbrev tyv (sg sh sz lo hi : Int) (tx : Bool) (fn : Int) (ps : Value) : Value := .agg #[.int .u8 sg, .int .i64 sh, .int .i64 sz, .int .i64 lo, .int .i64 hi, .bool tx, .int .u8 fn, ps]
abbrev vv (n : Int) (s : ByteArray) (l : Value) : Value := .agg #[.int .i64 n, .string s, l]

/-- How many of the first blocks are the program's variables, up to the tables of utf8. -/
def gTop : Nat := 8

/-- What is asked of utf8.ValidString and of the worlds in which it is called. -/
structure Utf (valid : ByteArray → Bool) (Tabs : World → Prop) : Prop where
  gives : ∀ (s : ByteArray) (w : World), Tabs w → s.size ≤ 200 → Calls Tryz.prog 320 #[.string s] w fun e w' => e = .returned (.bool (valid s)) ∧ Below w.heap.size w w'
  kept : ∀ {B : Nat} {w w' : World}, gTop ≤ B → Below B w w' → Tabs w → Tabs w'
  size : ∀ {w : World}, Tabs w → gTop ≤ w.heap.size

theorem ret_bool {a b : Bool} (h : a = b) : Ending.returned (.bool a) = .returned (.bool b) := by rw [h]
theorem toList_nil (s : ByteArray) : s.toList = [] ↔ s.size = 0 := by
  rw [Lib.toList_data, Lib.size_eq]; exact List.length_eq_zero_iff.symm

theorem below1 (w : World) (o : Obj) : Below w.heap.size w (w.alloc o) := (Below.refl _ _).alloc (Nat.le_refl _) o
theorem below2 (w : World) (o o' : Obj) : Below w.heap.size w ((w.alloc o).alloc o') := (below1 w o).alloc (by simp) o'
theorem below3 (w : World) (o o' o'' : Obj) : Below w.heap.size w (((w.alloc o).alloc o').alloc o'') := (below2 w o o').alloc (by simp; omega) o''

section
variable {valid : ByteArray → Bool} {Tabs : World → Prop}

set_option maxHeartbeats 400000 in
theorem fitsBytes_any (U : Utf valid Tabs) (w : World) (hT : Tabs w) (sg sh sz lo hi : Int) (tx : Bool) (fn : Int) (s : ByteArray) :
    Calls Tryz.prog 291 #[ltv sg sh sz lo hi tx fn, .string s] w fun e w' =>
      e = .returned (.bool (decide (s.size ≤ 200) && (!tx || valid s))) ∧ Below w.heap.size w w' := by
  by_cases h2 : s.size ≤ 200
  · have h2z : (s.size : Int) ≤ 200 := by omega
    rw [decide_eq_true h2, Bool.true_and]
    cases tx
    · clear hT
      go_enter Tryz.func291, Tryz.ntmps291
      go_wp2
      go_ret
      exact ⟨ret_bool (by simp), below1 _ _⟩
    · have hT1 : Tabs (w.alloc (.cells #[.int .u8 sg, .int .i64 sh, .int .i64 sz, .int .i64 lo, .int .i64 hi, .bool true, .int .u8 fn] 224)) := U.kept (U.size hT) (below1 _ _) hT
      have cV := U.gives s _ hT1 h2
      generalize valid s = V at *
      clear hT hT1
      go_enter Tryz.func291, Tryz.ntmps291
      go_wp2_with (go_at_call 320; refine cV.mono ?_; rintro e w' ⟨rfl, hb⟩)
      go_ret
      exact ⟨ret_bool (by simp), (below1 _ _).trans (hb.mono (by simp))⟩
  · have h2z : ¬ (s.size : Int) ≤ 200 := by omega
    rw [decide_eq_false h2, Bool.false_and]
    clear hT
    go_enter Tryz.func291, Tryz.ntmps291
    go_wp2
    go_ret
    exact ⟨ret_bool rfl, below1 _ _⟩

set_option maxHeartbeats 400000 in
theorem fits_0 (w : World) (sg sz lo hi : Int) (tx : Bool) (fn : Int) (pa la : Option Addr) (pn pc ln lc : Nat) (n : Int) (s : ByteArray) :
    Calls Tryz.prog 243 #[tyv sg 0 sz lo hi tx fn (.slice pa pn pc), vv n s (.slice la ln lc)] w fun e w' =>
      e = .returned (.bool (decide (lo ≤ n) && decide (n ≤ hi) && decide (s.size = 0) && decide (ln = 0))) ∧ Below w.heap.size w w' := by
  obtain ⟨R, hR⟩ : ∃ R, (decide (lo ≤ n) && decide (n ≤ hi) && decide (s.size = 0) && decide (ln = 0)) = R := ⟨_, rfl⟩
  rw [hR]
  have HR : Hid ((decide (lo ≤ n) && decide (n ≤ hi) && decide (s.size = 0) && decide (ln = 0)) = R) := hR
  clear hR
  go_enter Tryz.func243, Tryz.ntmps243
  go_wp2
  all_goals go_ret
  all_goals refine ⟨ret_bool ?_, below3 _ _ _ _⟩
  all_goals rw [← HR.out]
  all_goals clear HR
  all_goals go_light
  all_goals try simp only [toList_nil] at *
  all_goals (rw [Bool.eq_iff_iff]; simp only [Bool.and_eq_true, decide_eq_true_eq, beq_iff_eq, Bool.false_eq_true]; first | omega | (rw [false_iff]; omega))

set_option maxHeartbeats 400000 in
theorem fits_2 (w : World) (sg sz lo hi : Int) (tx : Bool) (fn : Int) (pa la : Option Addr) (pn pc ln lc : Nat) (n : Int) (s : ByteArray) :
    Calls Tryz.prog 243 #[tyv sg 2 sz lo hi tx fn (.slice pa pn pc), vv n s (.slice la ln lc)] w fun e w' =>
      e = .returned (.bool (decide (n = 0) && decide (s.size = 0) && decide (ln ≤ 32))) ∧ Below w.heap.size w w' := by
  obtain ⟨R, hR⟩ : ∃ R, (decide (n = 0) && decide (s.size = 0) && decide (ln ≤ 32)) = R := ⟨_, rfl⟩
  rw [hR]
  have HR : Hid ((decide (n = 0) && decide (s.size = 0) && decide (ln ≤ 32)) = R) := hR
  clear hR
  go_enter Tryz.func243, Tryz.ntmps243
  go_wp2
  all_goals go_ret
  all_goals refine ⟨ret_bool ?_, below3 _ _ _ _⟩
  all_goals rw [← HR.out]
  all_goals clear HR
  all_goals go_light
  all_goals try simp only [toList_nil] at *
  all_goals (rw [Bool.eq_iff_iff]; simp only [Bool.and_eq_true, decide_eq_true_eq, beq_iff_eq, Bool.false_eq_true]; first | omega | (rw [false_iff]; omega))

set_option maxHeartbeats 400000 in
theorem fits_3 (w : World) (sg sz lo hi : Int) (tx : Bool) (fn : Int) (pa la : Option Addr) (pn pc ln lc : Nat) (n : Int) (s : ByteArray) :
    Calls Tryz.prog 243 #[tyv sg 3 sz lo hi tx fn (.slice pa pn pc), vv n s (.slice la ln lc)] w fun e w' =>
      e = .returned (.bool (decide (n = 0) && decide (s.size = 0) && decide (ln = pn))) ∧ Below w.heap.size w w' := by
  obtain ⟨R, hR⟩ : ∃ R, (decide (n = 0) && decide (s.size = 0) && decide (ln = pn)) = R := ⟨_, rfl⟩
  rw [hR]
  have HR : Hid ((decide (n = 0) && decide (s.size = 0) && decide (ln = pn)) = R) := hR
  clear hR
  go_enter Tryz.func243, Tryz.ntmps243
  go_wp2
  all_goals go_ret
  all_goals refine ⟨ret_bool ?_, below3 _ _ _ _⟩
  all_goals rw [← HR.out]
  all_goals clear HR
  all_goals go_light
  all_goals try simp only [toList_nil] at *
  all_goals (rw [Bool.eq_iff_iff]; simp only [Bool.and_eq_true, decide_eq_true_eq, beq_iff_eq, Bool.false_eq_true]; first | omega | (rw [false_iff]; omega))

set_option maxHeartbeats 400000 in
theorem fits_1 (U : Utf valid Tabs) (w : World) (hT : Tabs w) (sg sz lo hi : Int) (tx : Bool) (fn : Int) (pa la : Option Addr) (pn pc ln lc : Nat) (n : Int) (s : ByteArray) :
    Calls Tryz.prog 243 #[tyv sg 1 sz lo hi tx fn (.slice pa pn pc), vv n s (.slice la ln lc)] w fun e w' =>
      e = .returned (.bool (decide (n = 0) && (decide (s.size ≤ 200) && (!tx || valid s)) && decide (ln = 0))) ∧ Below w.heap.size w w' := by
  have HB : Hid (∀ w', Tabs w' → Calls Tryz.prog 291 #[ltv sg 1 sz lo hi tx fn, .string s] w' fun e w'' => e = .returned (.bool (decide (s.size ≤ 200) && (!tx || valid s))) ∧ Below w'.heap.size w' w'') := fun w' h => fitsBytes_any U w' h sg 1 sz lo hi tx fn s
  generalize (decide (s.size ≤ 200) && (!tx || valid s)) = FB at *
  by_cases hn : n = 0
  · subst hn
    have HT : Hid (Tabs (((w.alloc (.cells #[.int .u8 sg, .int .i64 1, .int .i64 sz, .int .i64 lo, .int .i64 hi, .bool tx, .int .u8 fn, .slice pa pn pc] 227)).alloc (.cells #[.int .i64 0, .string s, .slice la ln lc] 113)).alloc (.cells #[.int .u8 sg, .int .i64 1, .int .i64 sz, .int .i64 lo, .int .i64 hi, .bool tx, .int .u8 fn] 224))) := U.kept (U.size hT) (below3 _ _ _ _) hT
    clear hT
    go_enter Tryz.func243, Tryz.ntmps243
    go_wp2_with (go_at_call 291; refine (HB.out _ ?hT).mono ?_)
    case hT => exact HT.out
    rintro e w' ⟨rfl, hb⟩
    have hbb : Below w.heap.size w w' := (below3 _ _ _ _).trans (hb.mono (by simp; omega))
    have hc2 : w'.cell? ⟨w.heap.size + 1, 2, none⟩ = some (.slice la ln lc) := (hb.cell (p := ⟨w.heap.size + 1, 2, none⟩) (by simp)).trans (by rw [World.cell?_alloc_past _ _ _ (by simp), World.cell?_alloc_at _ _ _ _ (by simp)]; rfl)
    clear hb HT HB
    cases FB
    · go_wp2
      go_ret
      exact ⟨ret_bool (by simp), hbb⟩
    · go_wp2
      go_ret
      refine ⟨ret_bool ?_, hbb⟩
      rw [Bool.eq_iff_iff]; simp
  · have hn' : (n == 0) = false := by simpa using hn
    rw [decide_eq_false hn, Bool.false_and, Bool.false_and]
    clear hT HB hn
    go_enter Tryz.func243, Tryz.ntmps243
    go_wp2
    go_ret
    exact ⟨ret_bool rfl, below3 _ _ _ _⟩

end
end Go.Proofs.YtlghcldiboecoaaGreatDoor

/- How types and values lie in memory. -/
namespace Go.Proofs.YtlghcldiboecoaaGreatDoor
open Go.RowKit Orch

theorem flat_get {α β : Type} (f : α → List β) (k : Nat) (hf : ∀ x, (f x).length = k) : ∀ (L : List α) (i j : Nat), j < k → (L.flatMap f)[i * k + j]? = (L[i]?).bind fun x => (f x)[j]? := by
  intro L
  induction L with
  | nil => intro i j _; simp
  | cons x r ih =>
    intro i j hj
    rw [List.flatMap_cons]
    cases i with
    | zero =>
      rw [Nat.zero_mul, Nat.zero_add, List.getElem?_append_left (by rw [hf]; exact hj)]
      simp
    | succ i =>
      rw [List.getElem?_append_right (by rw [hf, Nat.succ_mul]; omega), hf, show (i + 1) * k + j - k = i * k + j by rw [Nat.succ_mul]; omega, ih i j hj]
      simp

theorem flat_len {α β : Type} (f : α → List β) (k : Nat) (hf : ∀ x, (f x).length = k) : ∀ (L : List α), (L.flatMap f).length = L.length * k := by
  intro L
  induction L with
  | nil => simp
  | cons x r ih => rw [List.flatMap_cons, List.length_append, hf, ih, List.length_cons, Nat.succ_mul]; omega

abbrev lval (l : Lt) : Value := ltv l.sign.toNat l.shape l.size l.least l.most l.text l.fin.toNat
abbrev tval (l : Lt) (ps : Value) : Value := tyv l.sign.toNat l.shape l.size l.least l.most l.text l.fin.toNat ps
abbrev vval (v : V) (l : Value) : Value := vv v.n v.s l

/-- The eight cells of a type. -/
def tcell (p : Ty × Value) : List Value := [.int .u8 p.1.l.sign.toNat, .int .i64 p.1.l.shape, .int .i64 p.1.l.size, .int .i64 p.1.l.least, .int .i64 p.1.l.most, .bool p.1.l.text, .int .u8 p.1.l.fin.toNat, p.2]
/-- The three cells of a value. -/
def vcell (p : V × Value) : List Value := [.int .i64 p.1.n, .string p.1.s, p.2]

/-- A list of types lies in memory as the slice v; all its blocks are among S. -/
inductive TsAt (w : World) (S : Nat → Prop) : List Ty → Value → Prop
  | nil (a : Option Addr) (c : Nat) : TsAt w S [] (.slice a 0 c)
  | row (ps : List (Ty × Value)) (g cap : Nat) (h0 : ps ≠ []) (hcap : ps.length ≤ cap) (hS : S g)
      (hc : ∀ j u, (ps.flatMap tcell)[j]? = some u → w.cell? ⟨g, j, none⟩ = some u)
      (hr : ∀ p, p ∈ ps → TsAt w S p.1.ps p.2) : TsAt w S (ps.map Prod.fst) (.slice (some ⟨g, 0, none⟩) ps.length cap)

inductive VsAt (w : World) (S : Nat → Prop) : List V → Value → Prop
  | nil (a : Option Addr) (c : Nat) : VsAt w S [] (.slice a 0 c)
  | row (ps : List (V × Value)) (g cap : Nat) (h0 : ps ≠ []) (hcap : ps.length ≤ cap) (hS : S g)
      (hc : ∀ j u, (ps.flatMap vcell)[j]? = some u → w.cell? ⟨g, j, none⟩ = some u)
      (hr : ∀ p, p ∈ ps → VsAt w S p.1.l p.2) : VsAt w S (ps.map Prod.fst) (.slice (some ⟨g, 0, none⟩) ps.length cap)

theorem TsAt.congr {w w' : World} {S S' : Nat → Prop} (hSS : ∀ b, S b → S' b) (hw : ∀ b, S b → w'.heap[b]? = w.heap[b]?) {ts : List Ty} {v : Value} (h : TsAt w S ts v) : TsAt w' S' ts v := by
  induction h with
  | nil a c => exact .nil a c
  | row ps g cap h0 hcap hS hc hr ih =>
    exact .row ps g cap h0 hcap (hSS g hS) (fun j u hu => by rw [World.cell?_of_block (w := w) (a := ⟨g, j, none⟩) (hw g hS)]; exact hc j u hu) (fun p hp => ih p hp)

theorem VsAt.congr {w w' : World} {S S' : Nat → Prop} (hSS : ∀ b, S b → S' b) (hw : ∀ b, S b → w'.heap[b]? = w.heap[b]?) {ts : List V} {v : Value} (h : VsAt w S ts v) : VsAt w' S' ts v := by
  induction h with
  | nil a c => exact .nil a c
  | row ps g cap h0 hcap hS hc hr ih =>
    exact .row ps g cap h0 hcap (hSS g hS) (fun j u hu => by rw [World.cell?_of_block (w := w) (a := ⟨g, j, none⟩) (hw g hS)]; exact hc j u hu) (fun p hp => ih p hp)

theorem TsAt.shape {w : World} {S : Nat → Prop} {ts : List Ty} {v : Value} (h : TsAt w S ts v) : ∃ a c, v = .slice a ts.length c := by
  cases h with
  | nil => exact ⟨_, _, rfl⟩
  | row ps g cap => exact ⟨_, _, by rw [List.length_map]⟩

theorem VsAt.shape {w : World} {S : Nat → Prop} {ts : List V} {v : Value} (h : VsAt w S ts v) : ∃ a c, v = .slice a ts.length c := by
  cases h with
  | nil => exact ⟨_, _, rfl⟩
  | row ps g cap => exact ⟨_, _, by rw [List.length_map]⟩

theorem tcell_len (p : Ty × Value) : (tcell p).length = 8 := rfl
theorem vcell_len (p : V × Value) : (vcell p).length = 3 := rfl

/-- An element: where it lies, its cells, its own parts. -/
theorem TsAt.at {w : World} {S : Nat → Prop} {ts : List Ty} {v : Value} (h : TsAt w S ts v) (i : Nat) (hi : i < ts.length) :
    ∃ g cap x, v = .slice (some ⟨g, 0, none⟩) ts.length cap ∧ ts.length ≤ cap ∧ S g ∧ TsAt w S ts[i].ps x ∧ ∀ j u, (tcell (ts[i], x))[j]? = some u → w.cell? ⟨g, i * 8 + j, none⟩ = some u := by
  cases h with
  | nil => simp at hi
  | row ps g cap h0 hcap hS hc hr =>
    have hi' : i < ps.length := by simpa using hi
    refine ⟨g, cap, ps[i].2, by rw [List.length_map], by rw [List.length_map]; exact hcap, hS, ?_, fun j u hu => ?_⟩
    · rw [List.getElem_map]; exact hr _ (List.getElem_mem hi')
    · refine hc _ u ?_
      have hj : j < 8 := by
        have := (List.getElem?_eq_some_iff.1 hu).1
        rwa [tcell_len] at this
      rw [flat_get tcell 8 tcell_len ps i j hj, List.getElem?_eq_getElem hi', Option.bind_some]
      rw [List.getElem_map] at hu
      exact hu

theorem VsAt.at {w : World} {S : Nat → Prop} {ts : List V} {v : Value} (h : VsAt w S ts v) (i : Nat) (hi : i < ts.length) :
    ∃ g cap x, v = .slice (some ⟨g, 0, none⟩) ts.length cap ∧ ts.length ≤ cap ∧ S g ∧ VsAt w S ts[i].l x ∧ ∀ j u, (vcell (ts[i], x))[j]? = some u → w.cell? ⟨g, i * 3 + j, none⟩ = some u := by
  cases h with
  | nil => simp at hi
  | row ps g cap h0 hcap hS hc hr =>
    have hi' : i < ps.length := by simpa using hi
    refine ⟨g, cap, ps[i].2, by rw [List.length_map], by rw [List.length_map]; exact hcap, hS, ?_, fun j u hu => ?_⟩
    · rw [List.getElem_map]; exact hr _ (List.getElem_mem hi')
    · refine hc _ u ?_
      have hj : j < 3 := by
        have := (List.getElem?_eq_some_iff.1 hu).1
        rwa [vcell_len] at this
      rw [flat_get vcell 3 vcell_len ps i j hj, List.getElem?_eq_getElem hi', Option.bind_some]
      rw [List.getElem_map] at hu
      exact hu

/-- What a call has built by append is a list of types in memory. -/
theorem TsAt.of_own {w : World} {S : Nat → Prop} {base : Nat} {v : Value} {ps : List (Ty × Value)} (h : w.ownsRow base 227 8 v ps.length (ps.flatMap tcell)) (hr : ∀ p, p ∈ ps → TsAt w S p.1.ps p.2) (hS : ∀ g, v.ownBlock = some g → S g) : TsAt w S (ps.map Prod.fst) v := by
  rcases h.2 with ⟨rfl, h0⟩ | ⟨g, cap, cur, rfl, hb, hg, hn, _, hs, ht⟩
  · rw [List.length_eq_zero_iff.1 h0]; exact .nil _ _
  · by_cases h0 : ps = []
    · subst h0
      exact .nil _ _
    · refine .row ps g cap h0 hn (hS g rfl) (fun j u hu => ?_) hr
      have := h.cells (g := g) rfl j u hu
      rwa [Addr.add_lit, Nat.zero_add] at this

theorem VsAt.of_own {w : World} {S : Nat → Prop} {base : Nat} {v : Value} {ps : List (V × Value)} (h : w.ownsRow base 113 3 v ps.length (ps.flatMap vcell)) (hr : ∀ p, p ∈ ps → VsAt w S p.1.l p.2) (hS : ∀ g, v.ownBlock = some g → S g) : VsAt w S (ps.map Prod.fst) v := by
  rcases h.2 with ⟨rfl, h0⟩ | ⟨g, cap, cur, rfl, hb, hg, hn, _, hs, ht⟩
  · rw [List.length_eq_zero_iff.1 h0]; exact .nil _ _
  · by_cases h0 : ps = []
    · subst h0
      exact .nil _ _
    · refine .row ps g cap h0 hn (hS g rfl) (fun j u hu => ?_) hr
      have := h.cells (g := g) rfl j u hu
      rwa [Addr.add_lit, Nat.zero_add] at this

set_option maxHeartbeats 400000 in
theorem part_vec (w : World) (S : Nat → Prop) (t : Ty) (psv : Value) (h : TsAt w S t.ps psv) (hS : ∀ b, S b → b < w.heap.size) (i : Int) (hsh : t.l.shape = 2) (h0 : 0 < t.ps.length) :
    Calls Tryz.prog 244 #[tval t.l psv, .int .i64 i] w fun e w' => ∃ x, e = .returned (tval (t.ps[0]).l x) ∧ TsAt w S (t.ps[0]).ps x ∧ Below w.heap.size w w' := by
  obtain ⟨g, cap, x, rfl, hcap, hg, hx, hc⟩ := h.at 0 h0
  obtain ⟨xa, xc, rfl⟩ := hx.shape
  have hgl := hS g hg
  have c0 := hc 0 _ rfl
  have c1 := hc 1 _ rfl
  have c2 := hc 2 _ rfl
  have c3 := hc 3 _ rfl
  have c4 := hc 4 _ rfl
  have c5 := hc 5 _ rfl
  have c6 := hc 6 _ rfl
  have c7 := hc 7 _ rfl
  generalize t.ps[0] = p at *
  have HX : Hid (TsAt w S p.ps (.slice xa p.ps.length xc)) := hx
  clear hc hx hS h hg
  simp only [tval, tyv, hsh]
  have h0z : (0 : Int) < (t.ps.length : Int) := by omega
  generalize t.ps.length = k at *
  generalize hk : p.ps.length = m at *
  clear hk
  go_enter Tryz.func244, Tryz.ntmps244
  go_wp2
  exact bodyPost_ret (v := tval p.l (.slice xa m xc)) (by simp [results, Tryz.results244, go_sem]) rfl ⟨_, rfl, HX.out, below2 _ _ _⟩

set_option maxHeartbeats 400000 in
theorem part_rec (w : World) (S : Nat → Prop) (t : Ty) (psv : Value) (h : TsAt w S t.ps psv) (hS : ∀ b, S b → b < w.heap.size) (i : Nat) (hsh : t.l.shape = 3) (h0 : i < t.ps.length) (_hb : t.ps.length ≤ 1000) :
    Calls Tryz.prog 244 #[tval t.l psv, .int .i64 i] w fun e w' => ∃ x, e = .returned (tval (t.ps[i]).l x) ∧ TsAt w S (t.ps[i]).ps x ∧ Below w.heap.size w w' := by
  obtain ⟨g, cap, x, rfl, hcap, hg, hx, hc⟩ := h.at i h0
  obtain ⟨xa, xc, rfl⟩ := hx.shape
  have hgl := hS g hg
  have c0 : w.cell? ⟨g, i * 8, none⟩ = _ := hc 0 _ rfl
  have c1 := hc 1 _ rfl
  have c2 := hc 2 _ rfl
  have c3 := hc 3 _ rfl
  have c4 := hc 4 _ rfl
  have c5 := hc 5 _ rfl
  have c6 := hc 6 _ rfl
  have c7 := hc 7 _ rfl
  generalize t.ps[i] = p at *
  have HX : Hid (TsAt w S p.ps (.slice xa p.ps.length xc)) := hx
  clear hc hx hS h hg
  simp only [tval, tyv, hsh]
  have h0z : (i : Int) < (t.ps.length : Int) := by omega
  generalize t.ps.length = k at *
  generalize hk : p.ps.length = m at *
  clear hk
  go_enter Tryz.func244, Tryz.ntmps244
  go_wp2
  exact bodyPost_ret (v := tval p.l (.slice xa m xc)) (by simp [results, Tryz.results244, go_sem]) rfl ⟨_, rfl, HX.out, below2 _ _ _⟩

/-- Types as a schema gives them, of so many brackets. -/
def okT : Nat → Ty → Prop
  | 0, _ => False
  | k + 1, t => t.l ∈ letters ∧ (t.l.shape = 2 → t.ps.length = 1) ∧ t.ps.length ≤ 64 ∧ ∀ p, p ∈ t.ps → okT k p

theorem letters_shape {l : Lt} (h : l ∈ letters) : l.shape = 0 ∨ l.shape = 1 ∨ l.shape = 2 ∨ l.shape = 3 := by
  simp only [letters, List.mem_cons, List.mem_nil_iff, or_false] at h
  rcases h with rfl | rfl | rfl | rfl | rfl | rfl | rfl <;> simp
theorem letters_size {l : Lt} (h : l ∈ letters) (h0 : l.shape = 0) : l.size = 1 ∨ l.size = 4 ∨ l.size = 8 := by
  simp only [letters, List.mem_cons, List.mem_nil_iff, or_false] at h
  rcases h with rfl | rfl | rfl | rfl | rfl | rfl | rfl <;> simp at h0 ⊢

theorem getD_lt {α : Type} (l : List α) (i : Nat) (d : α) (h : i < l.length) : l.getD i d = l[i] := by
  rw [List.getD_eq_getElem?_getD, List.getElem?_eq_getElem h]; rfl

theorem part_ok {k : Nat} {t : Ty} (h : okT (k + 1) t) (i : Nat) (h23 : t.l.shape = 2 ∨ t.l.shape = 3 ∧ i < t.ps.length) : okT k (Orch.part t i) := by
  obtain ⟨_, h2, _, hp⟩ := h
  unfold Orch.part
  rcases h23 with h' | ⟨h', hi⟩
  · have := h2 h'
    rw [if_pos h', getD_lt _ _ _ (by omega)]
    exact hp _ (List.getElem_mem _)
  · rw [if_neg (by omega), getD_lt _ _ _ hi]
    exact hp _ (List.getElem_mem _)

/-- part, of a vector or a record. -/
theorem part_any (w : World) (S : Nat → Prop) {k : Nat} (t : Ty) (hok : okT (k + 1) t) (psv : Value) (h : TsAt w S t.ps psv) (hS : ∀ b, S b → b < w.heap.size) (i : Nat) (h23 : t.l.shape = 2 ∨ t.l.shape = 3 ∧ i < t.ps.length) :
    Calls Tryz.prog 244 #[tval t.l psv, .int .i64 i] w fun e w' => ∃ x, e = .returned (tval (Orch.part t i).l x) ∧ TsAt w S (Orch.part t i).ps x ∧ Below w.heap.size w w' := by
  obtain ⟨_, h2, hb, _⟩ := hok
  unfold Orch.part
  rcases h23 with h' | ⟨h', hi⟩
  · have := h2 h'
    rw [if_pos h', getD_lt _ _ _ (by omega)]
    exact part_vec w S t psv h hS i h' (by omega)
  · rw [if_neg (by omega), getD_lt _ _ _ hi]
    exact part_rec w S t psv h hS i h' hi (by omega)

end Go.Proofs.YtlghcldiboecoaaGreatDoor

/- Walks of what is read. -/
namespace Go.Proofs.YtlghcldiboecoaaGreatDoor
open Go.RowKit

/-- The bytes l lie where the slice v says. -/
def BsAt (w : World) (v : Value) (l : List UInt8) : Prop := ∃ b off cap, v = .slice (some ⟨b, off, none⟩) l.length cap ∧ l.length ≤ cap ∧ b < w.heap.size ∧ Bytes w b off l

theorem BsAt.below {B : Nat} {w w' : World} {v : Value} {l : List UInt8} (h : BsAt w v l) (hb : Below B w w') (hB : w.heap.size ≤ B) : BsAt w' v l := by
  obtain ⟨b, off, cap, e, hc, hlt, hby⟩ := h
  exact ⟨b, off, cap, e, hc, Nat.lt_of_lt_of_le hlt hb.size, fun i hi => (hb.cell (p := ⟨b, off + i, none⟩) (Nat.lt_of_lt_of_le hlt hB)).trans (hby i hi)⟩

theorem Bytes.drop {w : World} {b off : Nat} {l : List UInt8} (h : Bytes w b off l) (n : Nat) : Bytes w b (off + n) (l.drop n) := fun i hi => by
  rw [List.length_drop] at hi
  rw [List.getElem_drop, Nat.add_assoc]
  exact h (n + i) (by omega)

theorem Bytes.take {w : World} {b off : Nat} {l : List UInt8} (h : Bytes w b off l) (n : Nat) : Bytes w b off (l.take n) := fun i hi => by
  rw [List.length_take] at hi
  rw [List.getElem_take]
  exact h i (by omega)

/-- What is left behind n bytes, as the slice that Go makes of it. -/
theorem BsAt.tail1 {w : World} {b off cap : Nat} {l : List UInt8} (hcap : l.length ≤ cap) (hlt : b < w.heap.size) (n : Nat) (hn : n ≤ l.length) (he : cap = n) :
    BsAt w (.slice (some ⟨b, off, none⟩) (l.length - n) 0) (l.drop n) := by
  have h0 : l.drop n = [] := List.drop_eq_nil_of_le (by omega)
  rw [h0, show l.length - n = 0 by omega]
  exact ⟨b, off, 0, rfl, Nat.le_refl _, hlt, fun i hi => by simp at hi⟩

theorem BsAt.tail2 {w : World} {b off cap : Nat} {l : List UInt8} (hcap : l.length ≤ cap) (hb : Bytes w b off l) (hlt : b < w.heap.size) (n : Nat) :
    BsAt w (.slice (some ⟨b, off + n, none⟩) (l.length - n) (cap - n)) (l.drop n) :=
  ⟨b, off + n, cap - n, by rw [List.length_drop], by rw [List.length_drop]; omega, hlt, hb.drop n⟩

/-- .. in one word. -/
theorem BsAt.tail {w : World} {b off cap : Nat} {l : List UInt8} (hcap : l.length ≤ cap) (hb : Bytes w b off l) (hlt : b < w.heap.size) (n : Nat) (hn : n ≤ l.length) :
    BsAt w (if cap = n then .slice (some ⟨b, off, none⟩) (l.length - n) 0 else .slice (some ⟨b, off + n, none⟩) (l.length - n) (cap - n)) (l.drop n) := by
  split
  · exact BsAt.tail1 hcap hlt n hn ‹_›
  · exact BsAt.tail2 hcap hb hlt n

/-- Wherever bv reads as l, rv reads as what is left. -/
def Tail (bv : Value) (l : List UInt8) (rv : Value) (rest : List UInt8) : Prop := ∀ W, BsAt W bv l → BsAt W rv rest

theorem Tail.refl (bv : Value) (l : List UInt8) : Tail bv l bv l := fun _ h => h
theorem Tail.trans {a b c : Value} {l m n : List UInt8} (h : Tail a l b m) (k : Tail b m c n) : Tail a l c n := fun W hW => k W (h W hW)

theorem Tail.cut (b off cap : Nat) (l : List UInt8) (n : Nat) (hn : n ≤ l.length) :
    Tail (.slice (some ⟨b, off, none⟩) l.length cap) l (if cap = n then .slice (some ⟨b, off, none⟩) (l.length - n) 0 else .slice (some ⟨b, off + n, none⟩) (l.length - n) (cap - n)) (l.drop n) := by
  intro W h
  obtain ⟨b', off', cap', e, hc, hlt, hb⟩ := h
  simp only [Value.slice.injEq, Option.some.injEq, Addr.mk.injEq, and_true, true_and] at e
  obtain ⟨⟨rfl, rfl⟩, rfl⟩ := e
  exact BsAt.tail hc hb hlt n hn

theorem below_drew {B : Nat} (w : World) : Below B w w.drew := (Below.refl B w).drew

def countEnd (bv : Value) (l : List UInt8) (most : Nat) (e : Ending) : Prop :=
  match Orch.count l most with
  | none => e = .returned (.tuple #[.int .i64 0, .slice none 0 0, .bool false])
  | some (n, rest) => ∃ v, e = .returned (.tuple #[.int .i64 n, v, .bool true]) ∧ Tail bv l v rest

set_option maxHeartbeats 400000 in
theorem takeCount_any (w : World) (bv : Value) (l : List UInt8) (hl : l.length ≤ 1000) (hbv : BsAt w bv l) (most : Nat) (hm : most ≤ 1000) :
    Calls Tryz.prog 294 #[bv, .int .i64 most] w fun e w' => countEnd bv l most e ∧ Below w.heap.size w w' := by
  obtain ⟨b, off, cap, rfl, hcap, hlt, hb⟩ := hbv
  unfold countEnd Orch.count
  by_cases h4 : l.length < 4
  · simp only [if_pos h4]
    have h4z : (l.length : Int) < 4 := by omega
    generalize l.length = k at *
    clear hb
    go_enter Tryz.func294, Tryz.ntmps294
    go_wp2
    go_ret3
    exact ⟨rfl, Below.refl _ _⟩
  · simp only [if_neg h4]
    have cU := unsigned_any w b off 4 cap (l.take 4) (by rw [List.length_take]; omega) (by omega) (hb.take 4)
    have h4z : ¬ (l.length : Int) < 4 := by omega
    have HT1 : Hid (cap = 4 → Tail (.slice (some ⟨b, off, none⟩) l.length 4) l (.slice (some ⟨b, off, none⟩) (l.length - 4) 0) (l.drop 4)) := fun he => by
      have := Tail.cut b off cap l 4 (by omega)
      rwa [if_pos he, he] at this
    have HT2 : Hid (¬ cap = 4 → Tail (.slice (some ⟨b, off, none⟩) l.length cap) l (.slice (some ⟨b, off + 4, none⟩) (l.length - 4) (cap - 4)) (l.drop 4)) := fun he => by
      have := Tail.cut b off cap l 4 (by omega)
      rwa [if_neg he] at this
    have hX : Orch.uns (l.take 4) < 4294967296 := by
      have := Orch.uns_lt (l.take 4)
      rw [List.length_take] at this
      rw [show min 4 l.length = 4 by omega] at this
      exact this
    clear hb
    generalize Orch.uns (l.take 4) = X at *
    generalize l.drop 4 = L at *
    by_cases hu : most < X
    · rw [if_pos hu]
      have huz : (most : Int) < X := by omega
      clear HT1 HT2
      generalize l.length = k at *
      go_enter Tryz.func294, Tryz.ntmps294
      go_wp2_with (go_at_call 251; refine cU.mono ?_; rintro e w' ⟨rfl, rfl⟩)
      go_ret3
      exact ⟨rfl, Below.refl _ _⟩
    · rw [if_neg hu]
      have huz : ¬ (most : Int) < X := by omega
      generalize l.length = k at *
      go_enter Tryz.func294, Tryz.ntmps294
      go_wp2_with (go_at_call 251; refine cU.mono ?_; rintro e w' ⟨rfl, rfl⟩)
      go_region
      all_goals go_wp2
      all_goals go_ret3
      all_goals first | exact ⟨⟨_, rfl, HT1.out ‹_›⟩, below_drew _⟩ | exact ⟨⟨_, rfl, HT2.out ‹_›⟩, below_drew _⟩

/-- The world as a letter: what is known of it is all that is kept. -/
theorem wp_gen {P : Program} {c : Code} {Q : Exit → Act → World → Prop} {a : Act} {w : World} (F : World → Prop) (hF : F w) (h : ∀ W, F W → Code.wp P c Q a W) : Code.wp P c Q a w := h w hF

theorem cellOf {W : World} {g j : Nat} {cs : Array Value} {t : TypeId} {fr : Nat × Nat} {u : Value} (h : W.heap[g]? = some (.cells cs t fr)) (hu : cs[j]? = some u) : W.cell? ⟨g, j, none⟩ = some u := by
  rw [cell_of_row W g j cs t fr h]; exact hu
theorem frozenOf {W : World} {g j : Nat} {cs : Array Value} {t : TypeId} (h : W.heap[g]? = some (.cells cs t (0, 0))) : W.frozen? ⟨g, j, none⟩ = false := by simp [World.frozen?, h]
theorem ltOf {W : World} {g : Nat} {o : Obj} (h : W.heap[g]? = some o) : g < W.heap.size := (Array.getElem?_eq_some_iff.1 h).1

theorem new3 (w : World) (o0 o1 o2 : Obj) : (((w.alloc o0).alloc o1).alloc o2).heap[w.heap.size]? = some o0 ∧ (((w.alloc o0).alloc o1).alloc o2).heap[w.heap.size + 1]? = some o1 ∧ (((w.alloc o0).alloc o1).alloc o2).heap[w.heap.size + 1 + 1]? = some o2 := by
  refine ⟨?_, ?_, ?_⟩
  · rw [Below.heap_alloc _ _ _ (by simp; omega), Below.heap_alloc _ _ _ (by simp)]; exact heap_alloc_new w o0
  · rw [Below.heap_alloc _ _ _ (by simp)]
    have := heap_alloc_new (w.alloc o0) o1
    simpa using this
  · have := heap_alloc_new ((w.alloc o0).alloc o1) o2
    simpa using this

theorem new2 (w : World) (o0 o1 : Obj) : ((w.alloc o0).alloc o1).heap[w.heap.size]? = some o0 ∧ ((w.alloc o0).alloc o1).heap[w.heap.size + 1]? = some o1 := by
  refine ⟨?_, ?_⟩
  · rw [Below.heap_alloc _ _ _ (by simp)]; exact heap_alloc_new w o0
  · have := heap_alloc_new (w.alloc o0) o1
    simpa using this

section
variable {valid : ByteArray → Bool} {Tabs : World → Prop}

/-- fits, at whatever shape. -/
theorem fits_any (U : Utf valid Tabs) (w : World) (hT : Tabs w) {k : Nat} (t : Orch.Ty) (hok : okT (k + 1) t) (pa : Option Addr) (pc : Nat) (v : Orch.V) (la : Option Addr) (lc : Nat) :
    Calls Tryz.prog 243 #[tval t.l (.slice pa t.ps.length pc), vval v (.slice la v.l.length lc)] w fun e w' => e = .returned (.bool (Orch.fits valid t v)) ∧ Below w.heap.size w w' := by
  unfold Orch.fits
  rcases letters_shape hok.1 with h | h | h | h
  · simp only [tval, h]; exact fits_0 w _ _ _ _ _ _ _ _ _ _ _ _ _ _
  · simp only [tval, h]; exact fits_1 U w hT _ _ _ _ _ _ _ _ _ _ _ _ _ _
  · simp only [tval, h]; exact fits_2 w _ _ _ _ _ _ _ _ _ _ _ _ _ _
  · simp only [tval, h]; exact fits_3 w _ _ _ _ _ _ _ _ _ _ _ _ _ _

/-- A value that was not read: whatever it is. -/
def noneEnd (e : Ending) : Prop := ∃ (n : Int) (s : ByteArray) (a a' : Option Addr) (m c m' c' : Nat), e = .returned (.tuple #[vv n s (.slice a m c), .slice a' m' c', .bool false])

end
end Go.Proofs.YtlghcldiboecoaaGreatDoor
