/- The caller's books: marks. -/
import Derived.Test.YtlghcldiboecoaaGreatDoorQ02
import Derived.BigRegion
import Derived.Deep.RegionLaw
import Derived.Test.YtlghcldiboecoaaGreatDoorQ01
import Derived.Lib.ValidU
set_option linter.unusedVariables false
namespace Go.Proofs.YtlghcldiboecoaaGreatDoor
open Go.RowKit

/-- What the caller writes at place i of the n-th list of bytes. -/
def mark (n i : Nat) : UInt8 := if i % 2 = 0 then UInt8.ofNat (1 + n % 251) else UInt8.ofNat (1 + n / 251 % 251)

theorem num_any (w : World) (n : Int) (h0 : -9223372036854775808 ≤ n) (h1 : n ≤ 9223372036854775807) : Calls Tryz.prog 84 #[.int .i64 n] w fun e w' => e = .returned (.int .i64 n) ∧ w' = w := by
  go_enter Tryz.func84, Tryz.ntmps84
  go_wp2
  all_goals go_ret
  all_goals exact ⟨rfl, rfl⟩

theorem mark_even {n i : Nat} (h : i % 2 = 0) : ((mark n i).toNat : Int) = 1 + n % 251 := by
  unfold mark
  rw [if_pos h, UInt8.toNat_ofNat']
  omega

theorem mark_odd {n i : Nat} (h : ¬ i % 2 = 0) : ((mark n i).toNat : Int) = 1 + n / 251 % 251 := by
  unfold mark
  rw [if_neg h, UInt8.toNat_ofNat']
  omega

theorem markByte_any (w : World) (n i : Nat) (hn : n ≤ 9223372036854775807) (hi : i ≤ 9223372036854775807) : Calls Tryz.prog 114 #[.int .i64 n, .int .i64 i] w fun e w' => e = .returned (.int .u8 (mark n i).toNat) ∧ w' = w := by
  by_cases h : i % 2 = 0
  · rw [mark_even h]
    have hb : (((i : Int) % 2) == 0) = true := by rw [beq_iff_eq]; omega
    go_enter Tryz.func114, Tryz.ntmps114
    go_wp2
    all_goals go_ret
    all_goals exact ⟨rfl, rfl⟩
  · rw [mark_odd h]
    have hb : (((i : Int) % 2) == 0) = false := by rw [beq_eq_false_iff_ne]; omega
    go_enter Tryz.func114, Tryz.ntmps114
    go_wp2
    all_goals go_ret
    all_goals exact ⟨rfl, rfl⟩

set_option maxRecDepth 8000 in
set_option maxHeartbeats 2000000 in
/-- A list that reads as the caller has written it. -/
theorem marked_any (w : World) (la : Option Addr) (ln lc n : Nat) (hn : n ≤ 9223372036854775807) (hl : ln ≤ 9223372036854775806) (hlc : ln ≤ lc)
    (HC : Hid (∀ i, i < ln → ∃ g, la = some ⟨g, 0, none⟩ ∧ g < w.heap.size ∧ w.cell? ⟨g, i, none⟩ = some (.int .u8 (mark n i).toNat))) :
    Calls Tryz.prog 56 #[.slice la ln lc, .int .i64 n] w fun e w' => e = .returned (.bool true) ∧ Below w.heap.size w w' := by
  have HM : Hid (∀ (W : World) (i : Nat), i < ln → Calls Tryz.prog 114 #[.int .i64 n, .int .i64 i] W fun e w' => e = .returned (.int .u8 (mark n i).toNat) ∧ w' = W) := fun W i hi => markByte_any W n i hn (by omega)
  go_enter Tryz.func56, Tryz.ntmps56
  go_wp2
  go_loopw [5] (fun k wr => ∃ i : Nat, k = .int .i64 i ∧ i ≤ ln ∧ Hid (Below w.heap.size w wr)) (fun k _ => ln - (intOf k).toNat)
  case atStart => exact ⟨0, rfl, Nat.zero_le _, Below.refl _ _⟩
  case round =>
    obtain ⟨i, rfl, hi, HB⟩ := hrel
    by_cases hlt : i < ln
    · have hltz : (i : Int) < (ln : Int) := by omega
      obtain ⟨g, hla, hg, hc⟩ := HC.out i hlt
      subst hla
      have hc1 : wr.cell? ⟨g, i, none⟩ = some (.int .u8 (mark n i).toNat) := (HB.out.cell (p := ⟨g, i, none⟩) hg).trans hc
      have HMi : Hid (∀ W : World, Calls Tryz.prog 114 #[.int .i64 n, .int .i64 i] W fun e w' => e = .returned (.int .u8 (mark n i).toNat) ∧ w' = W) := fun W => HM.out W i hlt
      clear hc
      generalize mark n i = mk at *
      go_wp2
      go_region_with (go_at_call 114; refine (HMi.out _).mono ?_; rintro e w1 ⟨rfl, hw1⟩; have hw2 := hw1.symm; clear hw1; subst hw2)
      all_goals go_wp2
      all_goals go_roundw
      all_goals try (case rel => exact ⟨i + 1, by go_num, by omega, by first | exact HB | exact HB.out.drew⟩)
      all_goals try (case measure => simp [intOf]; omega)
    · have hltz : ¬ (i : Int) < (ln : Int) := by omega
      go_wp2
      all_goals go_ret
      all_goals exact ⟨rfl, HB.out⟩

end Go.Proofs.YtlghcldiboecoaaGreatDoor

/- The caller's books: whole. -/
set_option linter.unusedVariables false
namespace Go.Proofs.YtlghcldiboecoaaGreatDoor
open Go.RowKit

/-- A list of bytes that reads as the caller has written it, in blocks below B. -/
def MkAt (w : World) (B n : Nat) (v : Value) : Prop :=
  ∃ la ln lc, v = .slice la ln lc ∧ ln ≤ 9223372036854775806 ∧ ln ≤ lc ∧ ∀ i, i < ln → ∃ g, la = some ⟨g, 0, none⟩ ∧ g < B ∧ w.cell? ⟨g, i, none⟩ = some (.int .u8 (mark n i).toNat)

theorem MkAt.below {w w' : World} {B n : Nat} {v : Value} (h : MkAt w B n v) (hb : Below B w w') : MkAt w' B n v := by
  obtain ⟨la, ln, lc, hv, h1, h2, h3⟩ := h
  refine ⟨la, ln, lc, hv, h1, h2, fun i hi => ?_⟩
  obtain ⟨g, hg, hB, hc⟩ := h3 i hi
  exact ⟨g, hg, hB, (hb.cell (p := ⟨g, i, none⟩) hB).trans hc⟩

theorem MkAt.calls {w : World} {B n : Nat} {v : Value} (h : MkAt w B n v) (hn : n ≤ 9223372036854775807) (hB : B ≤ w.heap.size) : Calls Tryz.prog 56 #[v, .int .i64 n] w fun e w' => e = .returned (.bool true) ∧ Below w.heap.size w w' := by
  obtain ⟨la, ln, lc, rfl, h1, h2, h3⟩ := h
  exact marked_any w la ln lc n hn h1 h2 (fun i hi => by
    obtain ⟨g, hg, hgB, hc⟩ := h3 i hi
    exact ⟨g, hg, Nat.lt_of_lt_of_le hgB hB, hc⟩)

end Go.Proofs.YtlghcldiboecoaaGreatDoor

/- An append onto a row that is owned: the old list stays a row; where the new one lies. -/
set_option linter.unusedVariables false
namespace Go.Proofs.YtlghcldiboecoaaGreatDoor
open Go.RowKit

/-- The beginning of a row is a row. -/
theorem own_prefix {w : World} {base : Nat} {e : TypeId} {size g n m cap : Nat} {xs news : List Value} (h : w.ownsRow base e size (.slice (some ⟨g, 0, none⟩) (n + m) cap) (n + m) (xs ++ news)) (hx : xs.length = n * size) :
    w.ownsRow base e size (.slice (some ⟨g, 0, none⟩) n cap) n xs := by
  rcases h.2 with ⟨h0, _⟩ | ⟨g', cap', cur, hv, hbg, hg, hnc, hcm, hcs, htake⟩
  · cases h0
  · cases hv
    refine ⟨hx, .inr ⟨g, cap, cur, rfl, hbg, hg, by omega, hcm, hcs, ?_⟩⟩
    have h1 := congrArg (List.take (n * size)) htake
    rw [← hx, List.take_left, hx, List.take_take, Nat.min_eq_left (Nat.mul_le_mul_right _ (by omega))] at h1
    exact h1

section
variable {P : Program} (w : World)

/-- What an append of something leaves. -/
def AppRes (w w' : World) (base : Nat) (e : TypeId) (size : Nat) (v v' : Value) (n m : Nat) (xs news : List Value) : Prop :=
  w'.ownsRow base e size v' (n + m) (xs ++ news) ∧ w'.ownsRow base e size v n xs ∧ ((v'.ownBlock = v.ownBlock ∧ w.grownBy w' v.ownBlock) ∨ (v'.ownBlock = some w.heap.size ∧ Below w.heap.size w w'))

theorem run_append_keep (base : Nat) (t ty e : TypeId) (i : TypeInfo) (z : Value) (size bytes : Nat) (ht : P.underlying t = some (.slice e)) (hi : P.info? e = some i) (hz : i.zero = some z)
    (hsize : i.size = size) (hby : i.bytes = bytes) (hzs : z.cells.size = size) (hsz : 0 < size)
    (v : Value) (n : Nat) (xs : List Value) (hown : w.ownsRow base e size v n xs)
    (a : Addr) (m c : Nat) (news : List Value) (hl : news.length = m * size) (hnews : ∀ j u, news[j]? = some u → w.cell? (a.add j) = some u) (h1 : ∀ u ∈ news, u.oneCell' = true)
    (hm : 0 < m) (h63 : n + m ≤ maxLen) (hbytes : (n + m) * bytes ≤ 140737488355328) (hbase : base ≤ w.heap.size) :
    ∃ v' w', (Builtin.append_ #[t, t] ty #[v, .slice (some a) m c]).run P w = .ok v' w' ∧ AppRes w w' base e size v v' n m xs news := by
  obtain ⟨v', w', hr1, ho, _⟩ := run_append_own_at (P := P) w base t ty e i z size bytes ht hi hz hsize hby hzs hsz v n xs hown a m c news hl hnews h1 h63 hbytes hbase
  subst hsize
  subst hby
  have hsmall : n + m ≤ 9223372036854775807 := by simp only [maxLen] at h63; omega
  have fresh : ∀ ob, Below w.heap.size w (w.drew.alloc ob) := fun ob => (below_drew w).trans (below1 w.drew ob)
  rcases hown.2 with ⟨rfl, rfl⟩ | ⟨g, cap, _, rfl, _⟩
  · have hx : xs = [] := List.eq_nil_of_length_eq_zero (by simpa using hown.1)
    subst hx
    have hr := run_append_nil (P := P) w t ty e i z ht hi hz a m c news hl hnews (by omega) (by omega) (by rw [Nat.zero_add] at hbytes; omega)
    rw [hr] at hr1
    cases hr1
    exact ⟨_, _, hr, ho, World.ownsRow_nil _ _ _ _, .inr ⟨rfl, fresh _⟩⟩
  · by_cases hroom : n + m ≤ cap
    · obtain ⟨w2, hr, h2, h3⟩ := run_append_fits (P := P) w base t ty e i i.size ht hi rfl g n cap xs hown a m c news hl hnews h1 hroom
      exact ⟨_, w2, hr, h2, own_prefix h2 hown.1, .inl ⟨rfl, h3⟩⟩
    · have hr := run_append_grow (P := P) w t ty e i z ht hi hz ⟨g, 0, none⟩ n cap xs hown.1 (hown.cells (g := g) rfl) a m c news hl hnews (by omega) (by omega) (growslice_fits (by omega) hbytes)
      rw [hr] at hr1
      cases hr1
      exact ⟨_, _, hr, ho, hown.drew.alloc _, .inr ⟨rfl, fresh _⟩⟩

theorem wpList_append_keep {ops : Array Oper} {rest : List Oper} {o : Oper} {a : Act} {Q : Exit → Act → World → Prop} (hgd : o.guard = none) (s x : Operand) (t : TypeId)
    (ho : o.op = .call { callee := .builtin .append, args := #[s, x], argTypes := #[t, t] })
    (base : Nat) (e : TypeId) (i : TypeInfo) (z : Value) (size bytes : Nat) (ht : P.underlying t = some (.slice e)) (hi : P.info? e = some i) (hz : i.zero = some z)
    (hsize : i.size = size) (hby : i.bytes = bytes) (hzs : z.cells.size = size) (hsz : 0 < size)
    (v : Value) (n : Nat) (xs : List Value) (hs : a.eval s = v) (hown : w.ownsRow base e size v n xs)
    (ad : Addr) (m c : Nat) (news : List Value) (hx : a.eval x = .slice (some ad) m c) (hl : news.length = m * size) (hnews : ∀ j u, news[j]? = some u → w.cell? (ad.add j) = some u) (h1 : ∀ u ∈ news, u.oneCell' = true)
    (hm : 0 < m) (h63 : n + m ≤ maxLen) (hbytes : (n + m) * bytes ≤ 140737488355328) (hbase : base ≤ w.heap.size)
    (h : ∀ v' w', AppRes w w' base e size v v' n m xs news → wpList P ops Q rest (a.put o.dst v') w') :
    wpList P ops Q (o :: rest) a w := by
  refine wpList_plain hgd fun K hK => ?_
  obtain ⟨v', w', hr, h2⟩ := run_append_keep (P := P) w base t o.type e i z size bytes ht hi hz hsize hby hzs hsz v n xs hown ad m c news hl hnews h1 hm h63 hbytes hbase
  unfold Oper.wp execOp
  simp only [ho, resolve, invoke, builtin, Sem.run_bind, Sem.run_pure, Result.andThen_ok, List.map_toArray, List.map_cons, List.map_nil, hs, hx, hr]
  exact hK _ _ (h v' w' h2)

end

/-- The first k marks of the n-th list. -/
def marks (n k : Nat) : List Value := (List.range k).map fun i => .int .u8 (mark n i).toNat

theorem marks_len (n k : Nat) : (marks n k).length = k := by simp [marks]
theorem marks_add (n k m : Nat) : marks n (k + m) = marks n k ++ (List.range m).map (fun i => Value.int .u8 (mark n (k + i)).toNat) := by
  simp [marks, List.range_add, Function.comp_def]

/-- One mark more. -/
theorem set_marks {n i : Nat} {xs : List Value} (hi : i < xs.length) : (marks n i ++ xs.drop i).set i (.int .u8 (mark n i).toNat) = marks n (i + 1) ++ xs.drop (i + 1) := by
  rw [List.set_append_right _ _ (by rw [marks_len]; omega), marks_len, Nat.sub_self, List.drop_eq_getElem_cons hi, List.set_cons_zero, marks_add]
  simp

end Go.Proofs.YtlghcldiboecoaaGreatDoor

/- The caller's books: a list of bytes is kept. -/
set_option linter.unusedVariables false
namespace Go.Proofs.YtlghcldiboecoaaGreatDoor
open Go.RowKit

/-- The marks that an append adds. -/
abbrev more (N k m : Nat) : List Value := (List.range m).map (fun i => Value.int .u8 (mark N (k + i)).toNat)

theorem below_setX {W : World} {C X j : Nat} {u : Value} (hX : C ≤ X) : Below C W (W.setCell ⟨X, j, none⟩ u) :=
  ⟨rfl, rfl, rfl, by simp, fun i hi => heap_setCell_other _ _ _ _ (by show i ≠ X; omega)⟩

end Go.Proofs.YtlghcldiboecoaaGreatDoor

/- The caller's books: a list of bytes is kept. -/
set_option linter.unusedVariables false
namespace Go.Proofs.YtlghcldiboecoaaGreatDoor
open Go.RowKit

theorem Tryz.info120 : (Tryz.prog.info? 120).map (fun i => (i.zero, i.size, i.bytes)) = some (some (.agg #[.slice none 0 0, .slice none 0 0, .slice none 0 0, .slice none 0 0, .int .i64 0]), 5, 104) := by kernel_rfl

theorem more_one (N k m : Nat) : ∀ u, u ∈ more N k m → u.oneCell' = true := by
  intro u hu
  obtain ⟨x, _, rfl⟩ := List.mem_map.1 hu
  rfl

end Go.Proofs.YtlghcldiboecoaaGreatDoor

/- A list of values that lies anywhere: nil, empty, or a row at any place of a block. -/
set_option linter.unusedVariables false
namespace Go.Proofs.YtlghcldiboecoaaGreatDoor
open Go.RowKit

/-- A list of values lies in memory as the slice v, wherever; its blocks are among S. -/
inductive WsAt (w : World) (S : Nat → Prop) : List Orch.V → Value → Prop
  | nil : WsAt w S [] (.slice none 0 0)
  | emp (a : Addr) (c : Nat) : WsAt w S [] (.slice (some a) 0 c)
  | row (ps : List (Orch.V × Value)) (g o cap : Nat) (h0 : ps ≠ []) (hcap : ps.length ≤ cap) (hS : S g)
      (hc : ∀ j u, (ps.flatMap vcell)[j]? = some u → w.cell? ⟨g, o + j, none⟩ = some u)
      (hr : ∀ p, p ∈ ps → WsAt w S p.1.l p.2) : WsAt w S (ps.map Prod.fst) (.slice (some ⟨g, o, none⟩) ps.length cap)

theorem WsAt.congr {w w' : World} {S S' : Nat → Prop} (hSS : ∀ b, S b → S' b) (hw : ∀ b, S b → w'.heap[b]? = w.heap[b]?) {ts : List Orch.V} {v : Value} (h : WsAt w S ts v) : WsAt w' S' ts v := by
  induction h with
  | nil => exact .nil
  | emp a c => exact .emp a c
  | row ps g o cap h0 hcap hS hc hr ih =>
    exact .row ps g o cap h0 hcap (hSS g hS) (fun j u hu => by rw [World.cell?_of_block (w := w) (a := ⟨g, o + j, none⟩) (hw g hS)]; exact hc j u hu) (fun p hp => ih p hp)

theorem WsAt.shape {w : World} {S : Nat → Prop} {ts : List Orch.V} {v : Value} (h : WsAt w S ts v) : ∃ a c, v = .slice a ts.length c := by
  cases h with
  | nil => exact ⟨_, _, rfl⟩
  | emp a c => exact ⟨_, _, rfl⟩
  | row ps g o cap => exact ⟨_, _, by rw [List.length_map]⟩

theorem WsAt.fam {w : World} {S : Nat → Prop} {vs : List Orch.V} {v : Value} (h : WsAt w S vs v) : ∃ ex : Nat → Value, ∀ i (hi : i < vs.length),
    ∃ g o cap, v = .slice (some ⟨g, o, none⟩) vs.length cap ∧ vs.length ≤ cap ∧ S g ∧ WsAt w S vs[i].l (ex i) ∧ ∀ j u, (vcell (vs[i], ex i))[j]? = some u → w.cell? ⟨g, o + i * 3 + j, none⟩ = some u := by
  cases h with
  | nil => exact ⟨fun _ => .slice none 0 0, fun i hi => by simp at hi⟩
  | emp a c => exact ⟨fun _ => .slice none 0 0, fun i hi => by simp at hi⟩
  | row ps g o cap h0 hcap hS hc hr =>
    refine ⟨fun i => (ps.getD i (zV, .slice none 0 0)).2, fun i hi => ?_⟩
    have hi' : i < ps.length := by simpa using hi
    have eg : ps.getD i (zV, .slice none 0 0) = ps[i] := getD_lt _ _ _ hi'
    simp only [eg]
    refine ⟨g, o, cap, by rw [List.length_map], by rw [List.length_map]; exact hcap, hS, ?_, fun j u hu => ?_⟩
    · rw [List.getElem_map]; exact hr _ (List.getElem_mem hi')
    · rw [Nat.add_assoc]
      refine hc _ u ?_
      have hj : j < 3 := by
        have := (List.getElem?_eq_some_iff.1 hu).1
        rwa [vcell_len] at this
      rw [flat_get vcell 3 vcell_len ps i j hj, List.getElem?_eq_getElem hi', Option.bind_some]
      rw [List.getElem_map] at hu
      exact hu

end Go.Proofs.YtlghcldiboecoaaGreatDoor

/- The document's answer: is a text one type, a schema? -/
set_option linter.unusedVariables false
namespace Go.Proofs.YtlghcldiboecoaaGreatDoor
open Go.RowKit

theorem toList_len (s : ByteArray) : s.data.toList.length = s.size := by rw [Array.length_toList]; rfl

theorem getD_idx (s : ByteArray) (i : Nat) (h : i < s.size) : s.data.toList.getD i 0 = s[i] := by
  rw [List.getD_eq_getElem?_getD, List.getElem?_eq_getElem (by rw [toList_len]; exact h)]
  rfl

end Go.Proofs.YtlghcldiboecoaaGreatDoor

/- Plain mathematics of the document's answer: well-formed characters, one by one. -/
set_option linter.unusedVariables false
namespace Orch
open Go

/-- Is this byte one that stands behind the first of a character? -/
def isCont (l : List UInt8) (k : Nat) : Bool := decide (k < l.length) && decide (128 ≤ (l.getD k 0).toNat) && decide ((l.getD k 0).toNat ≤ 191)

def byteAt (l : List UInt8) (k : Nat) : Nat := (l.getD k 0).toNat
def ch2 (l : List UInt8) : Nat := byteAt l 0 % 32 * 64 + byteAt l 1 % 64
def ch3 (l : List UInt8) : Nat := byteAt l 0 % 16 * 4096 + byteAt l 1 % 64 * 64 + byteAt l 2 % 64
def ch4 (l : List UInt8) : Nat := byteAt l 0 % 8 * 262144 + byteAt l 1 % 64 * 4096 + byteAt l 2 % 64 * 64 + byteAt l 3 % 64

theorem getB (l : List UInt8) (k : Nat) : ((⟨l.toArray⟩ : ByteArray).get! (0 + k)).toNat = byteAt l k := by
  unfold byteAt
  rw [Nat.zero_add, List.getD_eq_getElem?_getD]
  show (l.toArray[k]!).toNat = _
  rw [getElem!_def, List.getElem?_toArray]
  cases l[k]? <;> rfl

theorem contB (l : List UInt8) (k : Nat) : (decide (0 + k < (⟨l.toArray⟩ : ByteArray).size) && byteAt l k / 64 == 2) = isCont l k := by
  rw [Nat.zero_add]
  unfold isCont byteAt
  have e : (⟨l.toArray⟩ : ByteArray).size = l.length := by show l.toArray.size = _; simp
  rw [e, Bool.and_assoc]
  congr 1
  rw [Bool.eq_iff_iff]
  simp only [beq_iff_eq, Bool.and_eq_true, decide_eq_true_iff]
  omega

/-- What a step of the decoder says. -/
theorem decode_eq (l : List UInt8) : Lib.decodeL l =
    (if byteAt l 0 < 128 then (byteAt l 0, 1)
     else if (byteAt l 0 / 32 == 6 && isCont l 1) = true then (if ch2 l ≥ 128 then (ch2 l, 2) else (65533, 1))
     else if (byteAt l 0 / 16 == 14 && isCont l 1 && isCont l 2) = true then (if (decide (ch3 l ≥ 2048) && Utf8.valid (ch3 l : Nat)) = true then (ch3 l, 3) else (65533, 1))
     else if (byteAt l 0 / 8 == 30 && isCont l 1 && isCont l 2 && isCont l 3) = true then (if (decide (ch4 l ≥ 65536) && Utf8.valid (ch4 l : Nat)) = true then (ch4 l, 4) else (65533, 1))
     else (65533, 1)) := by
  unfold Lib.decodeL Utf8.decode
  simp only [getB, contB]
  rfl

/-- How many bytes the first character has; none, if there is no well-formed one. -/
def uStep (l : List UInt8) : Option Nat :=
  if byteAt l 0 < 128 then some 1
  else if 192 ≤ byteAt l 0 ∧ byteAt l 0 < 224 then (if isCont l 1 = true ∧ 128 ≤ ch2 l then some 2 else none)
  else if 224 ≤ byteAt l 0 ∧ byteAt l 0 < 240 then (if (isCont l 1 = true ∧ isCont l 2 = true) ∧ 2048 ≤ ch3 l ∧ ¬ (55296 ≤ ch3 l ∧ ch3 l ≤ 57343) then some 3 else none)
  else if 240 ≤ byteAt l 0 ∧ byteAt l 0 < 248 then (if (isCont l 1 = true ∧ isCont l 2 = true ∧ isCont l 3 = true) ∧ 65536 ≤ ch4 l ∧ ch4 l ≤ 1114111 then some 4 else none)
  else none

theorem valid_iff (n : Nat) : Utf8.valid (n : Int) = true ↔ n < 55296 ∨ (57344 ≤ n ∧ n ≤ 1114111) := by
  unfold Utf8.valid
  simp only [Bool.or_eq_true, Bool.and_eq_true, decide_eq_true_iff]
  omega

theorem uStep_decode (l : List UInt8) : (∀ k, uStep l = some k → ¬ ((Lib.decodeL l).1 = 65533 ∧ (Lib.decodeL l).2 = 1) ∧ (Lib.decodeL l).2 = k) ∧ (uStep l = none → (Lib.decodeL l).1 = 65533 ∧ (Lib.decodeL l).2 = 1) := by
  have h3 : ch3 l ≤ 65535 := by unfold ch3; omega
  rw [decode_eq]
  unfold uStep
  by_cases a1 : byteAt l 0 < 128
  · rw [if_pos a1, if_pos a1]
    refine ⟨fun k hk => ?_, fun h => by cases h⟩
    simp only [Option.some.injEq] at hk
    subst hk
    exact ⟨by simp only; omega, rfl⟩
  · rw [if_neg a1, if_neg a1]
    by_cases a2 : 192 ≤ byteAt l 0 ∧ byteAt l 0 < 224
    · have e2 : (byteAt l 0 / 32 == 6) = true := by rw [beq_iff_eq]; omega
      have e3 : (byteAt l 0 / 16 == 14) = false := by rw [beq_eq_false_iff_ne]; omega
      have e4 : (byteAt l 0 / 8 == 30) = false := by rw [beq_eq_false_iff_ne]; omega
      rw [if_pos a2, e2, e3, e4]
      cases isCont l 1 with
      | false => simp
      | true =>
        by_cases hc : 128 ≤ ch2 l
        · simp [hc]
        · simp [hc]
    · rw [if_neg a2]
      have e2 : (byteAt l 0 / 32 == 6) = false := by rw [beq_eq_false_iff_ne]; omega
      rw [e2]
      by_cases a3 : 224 ≤ byteAt l 0 ∧ byteAt l 0 < 240
      · have e3 : (byteAt l 0 / 16 == 14) = true := by rw [beq_iff_eq]; omega
        have e4 : (byteAt l 0 / 8 == 30) = false := by rw [beq_eq_false_iff_ne]; omega
        rw [if_pos a3, e3, e4]
        have hv : (decide (ch3 l ≥ 2048) && Utf8.valid (ch3 l : Nat)) = decide (2048 ≤ ch3 l ∧ ¬ (55296 ≤ ch3 l ∧ ch3 l ≤ 57343)) := by
          rw [Bool.eq_iff_iff, Bool.and_eq_true, valid_iff]
          simp only [decide_eq_true_iff]
          omega
        rw [hv]
        by_cases hc : 2048 ≤ ch3 l ∧ ¬ (55296 ≤ ch3 l ∧ ch3 l ≤ 57343)
        · rw [decide_eq_true hc]
          simp only [eq_true hc]
          cases isCont l 1 <;> cases isCont l 2 <;> simp
        · rw [decide_eq_false hc]
          simp only [eq_false hc]
          cases isCont l 1 <;> cases isCont l 2 <;> simp
      · rw [if_neg a3]
        have e3 : (byteAt l 0 / 16 == 14) = false := by rw [beq_eq_false_iff_ne]; omega
        rw [e3]
        by_cases a4 : 240 ≤ byteAt l 0 ∧ byteAt l 0 < 248
        · have e4 : (byteAt l 0 / 8 == 30) = true := by rw [beq_iff_eq]; omega
          rw [if_pos a4, e4]
          have hv : (decide (ch4 l ≥ 65536) && Utf8.valid (ch4 l : Nat)) = decide (65536 ≤ ch4 l ∧ ch4 l ≤ 1114111) := by
            rw [Bool.eq_iff_iff, Bool.and_eq_true, valid_iff]
            simp only [decide_eq_true_iff]
            omega
          rw [hv]
          by_cases hc : 65536 ≤ ch4 l ∧ ch4 l ≤ 1114111
          · rw [decide_eq_true hc]
            simp only [eq_true hc]
            cases isCont l 1 <;> cases isCont l 2 <;> cases isCont l 3 <;> simp
          · rw [decide_eq_false hc]
            simp only [eq_false hc]
            cases isCont l 1 <;> cases isCont l 2 <;> cases isCont l 3 <;> simp
        · rw [if_neg a4]
          have e4 : (byteAt l 0 / 8 == 30) = false := by rw [beq_eq_false_iff_ne]; omega
          rw [e4]
          simp

theorem uStep_len {l : List UInt8} {k : Nat} (hl : l ≠ []) (h : uStep l = some k) : 1 ≤ k ∧ k ≤ l.length := by
  have h1 : 1 ≤ l.length := List.length_pos_iff.2 hl
  have hc : ∀ j, isCont l j = true → j < l.length := fun j hj => by
    unfold isCont at hj
    simp only [Bool.and_eq_true, decide_eq_true_iff] at hj
    exact hj.1.1
  unfold uStep at h
  repeat' split at h
  all_goals cases h
  · exact ⟨by omega, h1⟩
  · rename_i hx
    exact ⟨by omega, hc 1 hx.1⟩
  · rename_i hx
    exact ⟨by omega, hc 2 hx.1.2⟩
  · rename_i hx
    exact ⟨by omega, hc 3 hx.1.2.2⟩

/-- More fuel than bytes changes nothing. -/
theorem validGo_fuel : ∀ (n m : Nat) (l : List UInt8), l.length ≤ n → l.length ≤ m → Lib.validGoD n l = Lib.validGoD m l
  | 0, m, l, hn, _ => by
    have : l = [] := List.length_eq_zero_iff.1 (by omega)
    subst this
    cases m <;> simp [Lib.validGoD]
  | n + 1, 0, l, _, hm => by
    have : l = [] := List.length_eq_zero_iff.1 (by omega)
    subst this
    simp [Lib.validGoD]
  | n + 1, m + 1, l, hn, hm => by
    unfold Lib.validGoD
    by_cases hl : l = []
    · rw [if_pos hl, if_pos hl]
    · rw [if_neg hl, if_neg hl]
      split
      · rfl
      · rename_i hd
        cases hu : uStep l with
        | none => exact absurd ((uStep_decode l).2 hu) hd
        | some k =>
          have h2 := ((uStep_decode l).1 k hu).2
          have h3 := uStep_len hl hu
          rw [h2]
          exact validGo_fuel n m _ (by rw [List.length_drop]; omega) (by rw [List.length_drop]; omega)

/-- From a place on: is all well-formed? -/
theorem valid_step (l : List UInt8) (hl : l ≠ []) : Lib.validD l = match uStep l with
    | none => false
    | some k => Lib.validD (l.drop k) := by
  have h1 : 1 ≤ l.length := List.length_pos_iff.2 hl
  obtain ⟨n, hn⟩ : ∃ n, l.length = n + 1 := ⟨l.length - 1, by omega⟩
  unfold Lib.validD
  rw [hn, Lib.validGoD, if_neg hl]
  cases hu : uStep l with
  | none => rw [if_pos ((uStep_decode l).2 hu)]
  | some k =>
    have h2 := (uStep_decode l).1 k hu
    have h3 := uStep_len hl hu
    rw [if_neg h2.1, h2.2]
    exact validGo_fuel n _ _ (by rw [List.length_drop]; omega) (Nat.le_refl _)

end Orch
