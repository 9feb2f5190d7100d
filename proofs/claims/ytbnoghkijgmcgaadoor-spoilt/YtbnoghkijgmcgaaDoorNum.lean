/- Walks over numbers as bytes. -/
import Derived.Test.YtbnoghkijgmcgaaDoorProg
import Derived.Test.YtbnoghkijgmcgaaDoorPlain
import Derived.WalkKit
import Derived.WalkSpells
import Derived.WalkLawsBesides
import Derived.Handy
import Derived.Outline
import Derived.Laws.BitsAllLaws
namespace Go.Proofs.YtbnoghkijgmcgaaDoor
open Go.RowKit

/-- The bytes l lie in block b from off on. -/
def Bytes (w : World) (b off : Nat) (l : List UInt8) : Prop := ∀ i (h : i < l.length), w.cell? ⟨b, off + i, none⟩ = some (.int .u8 l[i].toNat)

theorem or_byte (X c : Nat) (hX : X < 72057594037927936) (hc : c < 256) : bits .or .u64 ((X : Int) * 256) (c : Int) = ((X * 256 + c : Nat) : Int) := by
  have e : ((X : Int) * 256) = ((X * 256 : Nat) : Int) := by omega
  rw [e, u64_or_nat _ _ (by omega) (by omega)]
  have := Nat.shiftLeft_add_eq_or_of_lt (i := 8) (b := c) (by omega) X
  rw [Nat.shiftLeft_eq] at this
  rw [← this]

theorem uns_snoc (l : List UInt8) (k : Nat) (h : k < l.length) : Orch.uns (l.take (k + 1)) = Orch.uns (l.take k) * 256 + l[k].toNat := by
  rw [List.take_succ_eq_append_getElem h]
  unfold Orch.uns
  rw [List.foldl_append]
  rfl

theorem ret_int {k : IntKind} {a b : Int} (h : a = b) : Ending.returned (.int k a) = .returned (.int k b) := by rw [h]
theorem val_int {k : IntKind} {a b : Int} (h : a = b) : Value.int k a = .int k b := by rw [h]

set_option maxHeartbeats 400000 in
theorem unsigned_any (w : World) (b off n cap : Nat) (l : List UInt8) (hn : l.length = n) (hl : n ≤ 8) (hb : Bytes w b off l) :
    Calls Tryd.prog 50 #[.slice (some ⟨b, off, none⟩) n cap] w fun e w' => e = .returned (.int .u64 (Orch.uns l)) ∧ w' = w := by
  subst hn
  go_enter Tryd.func50, Tryd.ntmps50
  go_wp2
  go_loop [3, 8] (fun x i => ∃ k : Nat, k ≤ l.length ∧ i = .int .i64 k ∧ x = .int .u64 (Orch.uns (l.take k))) (fun _ i => l.length - (intOf i).toNat)
  case atStart => exact ⟨0, Nat.zero_le _, rfl, rfl⟩
  case round =>
    obtain ⟨k, hk, rfl, rfl⟩ := hrel
    by_cases hlt : k < l.length
    · have hc := hb k hlt
      have HS : Hid (Orch.uns (l.take (k + 1)) = Orch.uns (l.take k) * 256 + l[k].toNat) := uns_snoc l k hlt
      have hk2 : Orch.uns (l.take k) < 256 ^ 7 := by
        have h1 := Orch.uns_lt (l.take k)
        have h2 : (l.take k).length ≤ 7 := by rw [List.length_take]; omega
        exact Nat.lt_of_lt_of_le h1 (Nat.pow_le_pow_right (by omega) h2)
      have h7 : (Orch.uns (l.take k) : Int) < 72057594037927936 := by
        have : (256 : Nat) ^ 7 = 72057594037927936 := by decide
        omega
      have hc8 : l[k].toNat < 256 := UInt8.toNat_lt _
      clear hk2
      generalize Orch.uns (l.take k) = X at *
      go_wp2
      go_round
      case rel => exact ⟨k + 1, by omega, by go_num, val_int (by rw [or_byte X _ (by omega) hc8, HS.out])⟩
      case measure => first | (simp [intOf]; done) | (simp [intOf]; omega)
    · go_wp2
      go_ret
      exact ⟨ret_int (by rw [List.take_of_length_le (by omega)]), rfl⟩

/-- What a sign-extending pair of shifts gives. -/
theorem sgn_of (l : List UInt8) (n : Nat) (hn : l.length = n) : Orch.sgn l = if 256 ^ n ≤ 2 * Orch.uns l then (Orch.uns l : Int) - 256 ^ n else Orch.uns l := by
  subst hn; rfl

set_option maxHeartbeats 400000 in
theorem signed_1 (w : World) (b off cap : Nat) (l : List UInt8) (hn : l.length = 1) (hb : Bytes w b off l) :
    Calls Tryd.prog 51 #[.slice (some ⟨b, off, none⟩) 1 cap] w fun e w' => e = .returned (.int .i64 (Orch.sgn l)) ∧ w' = w := by
  have cU := unsigned_any w b off 1 cap l hn (by omega) hb
  have hlt : (Orch.uns l : Int) < 256 := by
    have := Orch.uns_lt l
    rw [hn] at this
    omega
  have HG : Hid (Orch.sgn l = if 256 ^ 1 ≤ 2 * Orch.uns l then (Orch.uns l : Int) - 256 ^ 1 else (Orch.uns l : Int)) := sgn_of l 1 hn
  generalize Orch.uns l = X at *
  generalize Orch.sgn l = S at *
  go_enter Tryd.func51, Tryd.ntmps51
  go_wp2_with (go_at_call 50; refine cU.mono ?_; rintro e w' ⟨rfl, rfl⟩)
  go_ret
  refine ⟨ret_int ?_, rfl⟩
  rw [HG.out]
  unfold wrap64
  split <;> omega

set_option maxHeartbeats 400000 in
theorem signed_4 (w : World) (b off cap : Nat) (l : List UInt8) (hn : l.length = 4) (hb : Bytes w b off l) :
    Calls Tryd.prog 51 #[.slice (some ⟨b, off, none⟩) 4 cap] w fun e w' => e = .returned (.int .i64 (Orch.sgn l)) ∧ w' = w := by
  have cU := unsigned_any w b off 4 cap l hn (by omega) hb
  have hlt : (Orch.uns l : Int) < 4294967296 := by
    have := Orch.uns_lt l
    rw [hn] at this
    omega
  have HG : Hid (Orch.sgn l = if 256 ^ 4 ≤ 2 * Orch.uns l then (Orch.uns l : Int) - 256 ^ 4 else (Orch.uns l : Int)) := sgn_of l 4 hn
  generalize Orch.uns l = X at *
  generalize Orch.sgn l = S at *
  go_enter Tryd.func51, Tryd.ntmps51
  go_wp2_with (go_at_call 50; refine cU.mono ?_; rintro e w' ⟨rfl, rfl⟩)
  go_ret
  refine ⟨ret_int ?_, rfl⟩
  rw [HG.out]
  unfold wrap64
  split <;> omega

set_option maxHeartbeats 400000 in
theorem signed_8 (w : World) (b off cap : Nat) (l : List UInt8) (hn : l.length = 8) (hb : Bytes w b off l) :
    Calls Tryd.prog 51 #[.slice (some ⟨b, off, none⟩) 8 cap] w fun e w' => e = .returned (.int .i64 (Orch.sgn l)) ∧ w' = w := by
  have cU := unsigned_any w b off 8 cap l hn (by omega) hb
  have HL : Hid (Orch.uns l < 18446744073709551616) := by
    have := Orch.uns_lt l
    rw [hn] at this
    exact this
  have HG : Hid (Orch.sgn l = if 256 ^ 8 ≤ 2 * Orch.uns l then (Orch.uns l : Int) - 256 ^ 8 else (Orch.uns l : Int)) := sgn_of l 8 hn
  generalize Orch.uns l = X at *
  generalize Orch.sgn l = S at *
  go_enter Tryd.func51, Tryd.ntmps51
  go_wp2_with (go_at_call 50; refine cU.mono ?_; rintro e w' ⟨rfl, rfl⟩)
  go_ret
  refine ⟨ret_int ?_, rfl⟩
  rw [HG.out]
  have h1 := HL.out
  have e : IntKind.u64.wrap (X : Int) = (X : Int) := by
    simp [IntKind.wrap, IntKind.bits, IntKind.signed]; omega
  rw [e]
  unfold wrap64
  split <;> omega

def bcells (l : List UInt8) : List Value := l.map fun c => .int .u8 c.toNat

theorem bcells_append (a b : List UInt8) : bcells (a ++ b) = bcells a ++ bcells b := List.map_append

theorem be_take (n : Int) (m : Nat) : ∀ size, m + 1 ≤ size → (Orch.be n size).take (size - m) = (Orch.be n size).take (size - (m + 1)) ++ [UInt8.ofNat ((n / 256 ^ m) % 256).toNat] := by
  intro size
  induction size with
  | zero => intro h; omega
  | succ k ih =>
    intro h
    unfold Orch.be
    by_cases e : m = k
    · subst e
      rw [show m + 1 - m = 1 by omega, show m + 1 - (m + 1) = 0 by omega]
      rfl
    · rw [show k + 1 - m = (k - m) + 1 by omega, show k + 1 - (m + 1) = (k - (m + 1)) + 1 by omega, List.take_succ_cons, List.take_succ_cons, ih (by omega)]
      rfl

theorem byte_of (n : Int) (m : Nat) (hm : m ≤ 7) : IntKind.u64.wrap n / 2 ^ (8 * m) % 256 = ((UInt8.ofNat ((n / 256 ^ m) % 256).toNat).toNat : Int) := by
  have e : IntKind.u64.wrap n = n % 18446744073709551616 := by simp [IntKind.wrap, IntKind.bits, IntKind.signed]
  have f : ∀ q : Int, ((UInt8.ofNat (q % 256).toNat).toNat : Int) = q % 256 := fun q => by
    rw [UInt8.toNat_ofNat']
    omega
  rw [e, f]
  match m, hm with
  | 0, _ => simp
  | 1, _ => omega
  | 2, _ => omega
  | 3, _ => omega
  | 4, _ => omega
  | 5, _ => omega
  | 6, _ => omega
  | 7, _ => omega

theorem Tryd.info5 : (Tryd.prog.info? 5).map (fun i => (i.zero, i.size, i.bytes)) = some (some (.int .u8 0), 1, 1) := by kernel_rfl

set_option maxHeartbeats 400000 in
/-- number.Append: the bytes of the number behind those that are there. -/
theorem append_any (w : World) (base : Nat) (v : Value) (n : Int) (size : Nat) (xs : List UInt8) (hs : size ≤ 8)
    (hown : w.ownsRow base 5 1 v xs.length (bcells xs)) (hbase : base ≤ w.heap.size) (hx : xs.length ≤ 100000) :
    Calls Tryd.prog 42 #[v, .int .i64 n, .int .i64 size] w fun e w' => ∃ v', e = .returned v' ∧ w'.ownsRow base 5 1 v' (xs ++ Orch.be n size).length (bcells (xs ++ Orch.be n size)) ∧ Below base w w' := by
  obtain ⟨i0, hi, hz0, hz1, hz2⟩ := info_parts Tryd.info5
  go_enter Tryd.func42, Tryd.ntmps42
  go_wp2
  go_loopw [0, 7] (fun u i wr => ∃ j : Nat, j ≤ size ∧ i = .int .i64 ((j : Int) - 1) ∧ Hid (wr.ownsRow base 5 1 u (xs ++ (Orch.be n size).take (size - j)).length (bcells (xs ++ (Orch.be n size).take (size - j)))) ∧ Hid (Below base w wr))
    (fun _ i _ => (intOf i + 1).toNat)
  case atStart => exact ⟨size, Nat.le_refl _, rfl, by show World.ownsRow _ _ _ _ _ _ _; rw [Nat.sub_self]; simpa using hown, Below.refl _ _⟩
  case round =>
    obtain ⟨j, hj, rfl, ho, hbw⟩ := hrel
    cases j with
    | zero =>
      go_wp2
      go_ret
      have e : (Orch.be n size).take (size - 0) = Orch.be n size := by rw [List.take_of_length_le (by rw [Orch.be_length]; omega)]
      have h1 := ho.out
      rw [e] at h1
      exact ⟨_, rfl, h1, hbw.out⟩
    | succ m =>
      rw [show ((m + 1 : Nat) : Int) - 1 = (m : Int) by omega]
      have hl : (xs ++ (Orch.be n size).take (size - (m + 1))).length ≤ 100008 := by
        rw [List.length_append, List.length_take, Orch.be_length]; omega
      have HT : Hid (xs ++ (Orch.be n size).take (size - m) = (xs ++ (Orch.be n size).take (size - (m + 1))) ++ [UInt8.ofNat ((n / 256 ^ m) % 256).toNat]) := by
        show _ = _
        rw [be_take n m size hj, List.append_assoc]
      have HB : Hid (IntKind.u64.wrap n / 2 ^ (8 * m) % 256 = ((UInt8.ofNat ((n / 256 ^ m) % 256).toNat).toNat : Int)) := byte_of n m (by omega)
      generalize xs ++ (Orch.be n size).take (size - (m + 1)) = L at *
      go_wp2_with (at_builtin; refine wpList_append_own _ rfl _ _ 34 rfl base 5 i0 (.int .u8 0) 1 1 Tryd.underlying34 hi hz0 hz1 hz2 rfl (by decide) _ _ _ rfl (ho.out.alloc _) ⟨wr.heap.size, 0, none⟩ 1 1 [_] rfl rfl (cell_one_new _ _ _) ?c2 ?c3 ?c4 ?c5 ?_)
      case c2 => intro u hu; simp at hu; subst hu; rfl
      case c3 => unfold maxLen; omega
      case c4 => omega
      case c5 => have := hbw.out.size; simp; omega
      intro v' w1 hown' hgrow _
      have hb1 : Hid (Below base w w1) := (hbw.out.alloc (by have := hbw.out.size; omega) _).grown hgrow (by have := hbw.out.size; simp; omega) (fun k hk => (ho.out.lt k hk).1)
      have hown2 : Hid (w1.ownsRow base 5 1 v' (xs ++ (Orch.be n size).take (size - m)).length (bcells (xs ++ (Orch.be n size).take (size - m)))) := by
        show World.ownsRow _ _ _ _ _ _ _
        rw [HT.out, bcells_append]
        rw [HB.out] at hown'
        simpa [bcells] using hown'
      clear hown' hgrow
      go_wp2
      go_roundw
      case rel => exact ⟨m, by omega, by go_num, hown2, hb1⟩
      case measure => first | (simp [intOf]; done) | (simp [intOf]; omega)
#print axioms append_any
end Go.Proofs.YtbnoghkijgmcgaaDoor
