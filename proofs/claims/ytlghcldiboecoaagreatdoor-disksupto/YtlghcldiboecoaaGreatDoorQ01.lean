/- Plain mathematics of the document's answer: which texts are schemas, by counting brackets; that these are the texts which the parser reads. -/
import Derived.Test.YtlghcldiboecoaaGreatDoorQ00
import Derived.Deep.OwnRows
import Derived.Laws.OwnMore
import Derived.BigRegion
set_option linter.unusedVariables false
namespace Orch

def opens (c : UInt8) : Bool := c == 91 || c == 40
def shuts (c : UInt8) : Bool := c == 93 || c == 41

def cnt (n : Int) (c : UInt8) : Int := if shuts c then (if opens c then n + 1 else n) - 1 else (if opens c then n + 1 else n)

def closesFrom : Int → List UInt8 → Option Nat
  | _, [] => none
  | n, c :: r => if cnt n c = 0 then some 0 else (closesFrom (cnt n c) r).map (· + 1)

def firstL : List UInt8 → List UInt8
  | [] => []
  | c :: r => if opens c then (match closesFrom 0 (c :: r) with | none => c :: r | some i => (c :: r).take (i + 1)) else [c]

def isLeaf (c : UInt8) : Bool := c == 63 || c == 52 || c == 56 || c == 98 || c == 116
def mates (c d : UInt8) : Bool := c == 91 && d == 93 || c == 40 && d == 41

def Bal (p : List UInt8) : Prop := ∀ n : Int, 1 ≤ n → ∀ x, closesFrom n (p ++ x) = (closesFrom n x).map (· + p.length)

theorem Bal.nil : Bal [] := fun n _ x => by simp

theorem Bal.append {p q : List UInt8} (hp : Bal p) (hq : Bal q) : Bal (p ++ q) := fun n hn x => by
  rw [List.append_assoc, hp n hn, hq n hn, Option.map_map]
  congr 1
  funext i
  simp only [Function.comp, List.length_append]
  omega

theorem leaf_open {c : UInt8} (h : isLeaf c = true) : opens c = false ∧ shuts c = false := by
  unfold isLeaf at h
  simp only [Bool.or_eq_true, beq_iff_eq] at h
  rcases h with (((rfl | rfl) | rfl) | rfl) | rfl <;> decide

theorem Bal.leaf {c : UInt8} (h : isLeaf c = true) : Bal [c] := fun n hn x => by
  obtain ⟨h1, h2⟩ := leaf_open h
  have e : cnt n c = n := by unfold cnt; rw [h1, h2]; simp
  rw [List.singleton_append, closesFrom, e, if_neg (by omega)]
  rfl

theorem mates_open {c d : UInt8} (h : mates c d = true) : opens c = true ∧ shuts c = false ∧ opens d = false ∧ shuts d = true := by
  unfold mates at h
  simp only [Bool.or_eq_true, Bool.and_eq_true, beq_iff_eq] at h
  rcases h with ⟨rfl, rfl⟩ | ⟨rfl, rfl⟩ <;> decide

theorem cnt_open {c : UInt8} (h1 : opens c = true) (h2 : shuts c = false) (n : Int) : cnt n c = n + 1 := by unfold cnt; rw [h1, h2]; simp
theorem cnt_shut {c : UInt8} (h1 : opens c = false) (h2 : shuts c = true) (n : Int) : cnt n c = n - 1 := by unfold cnt; rw [h1, h2]; simp

theorem Bal.brackets {c d : UInt8} {p : List UInt8} (h : mates c d = true) (hp : Bal p) : Bal (c :: (p ++ [d])) := fun n hn x => by
  obtain ⟨h1, h2, h3, h4⟩ := mates_open h
  rw [List.cons_append, closesFrom, cnt_open h1 h2, if_neg (by omega), List.append_assoc, hp (n + 1) (by omega), List.singleton_append, closesFrom, cnt_shut h3 h4, show n + 1 - 1 = n by omega, if_neg (by omega), Option.map_map, Option.map_map]
  congr 1
  funext i
  simp only [Function.comp, List.length_cons, List.length_append, List.length_nil]
  omega

theorem closes_brackets {c d : UInt8} {p : List UInt8} (h : mates c d = true) (hp : Bal p) (x : List UInt8) : closesFrom 0 (c :: (p ++ d :: x)) = some (p.length + 1) := by
  obtain ⟨h1, h2, h3, h4⟩ := mates_open h
  rw [closesFrom, cnt_open h1 h2, if_neg (by omega), hp (0 + 1) (by omega), closesFrom, cnt_shut h3 h4, if_pos (by omega)]
  simp

structure One (f : List UInt8 → Option (Ty × List UInt8)) (p : List UInt8) (t : Ty) : Prop where
  reads : ∀ any, f (p ++ any) = some (t, any)
  bal : Bal p
  first : ∀ any, firstL (p ++ any) = p
  head : ∃ c r, p = c :: r ∧ (isLeaf c = true ∨ opens c = true)

inductive Row (f : List UInt8 → Option (Ty × List UInt8)) : List UInt8 → List Ty → Prop
  | nil : Row f [] []
  | cons {p q : List UInt8} {t : Ty} {ts : List Ty} (h : One f p t) (hq : Row f q ts) : Row f (p ++ q) (t :: ts)

theorem Row.bal {f : List UInt8 → Option (Ty × List UInt8)} {p : List UInt8} {ts : List Ty} (h : Row f p ts) : Bal p := by
  induction h with
  | nil => exact Bal.nil
  | cons h hq ih => exact h.bal.append ih

theorem Row.len {f : List UInt8 → Option (Ty × List UInt8)} {p : List UInt8} {ts : List Ty} (h : Row f p ts) : ts.length ≤ p.length := by
  induction h with
  | nil => simp
  | cons h hq ih =>
    obtain ⟨c, r, e, _⟩ := h.head
    rw [List.length_cons, List.length_append, e, List.length_cons]
    omega

theorem find_leaf {c : UInt8} {l : Lt} (h : find c = some l) : l.sign = c ∧ ((l.fin = 0 ∧ isLeaf c = true ∧ l.shape < 2) ∨ (mates c l.fin = true ∧ l.fin ≠ 0 ∧ (l.shape = 2 ∧ c = 91 ∨ l.shape = 3 ∧ c = 40))) := by
  unfold find letters at h
  simp only [List.find?_cons] at h
  repeat' split at h
  all_goals first
    | (injection h with h; subst h; rename_i hc; simp only [beq_iff_eq] at hc; subst hc; exact ⟨rfl, by decide⟩)
    | (simp at h)

theorem parts_row {f : List UInt8 → Option (Ty × List UInt8)} (hf : ∀ s t rest, f s = some (t, rest) → ∃ p, s = p ++ rest ∧ One f p t) (l : Lt) :
    ∀ (n : Nat) (s : List UInt8) (acc ps : List Ty) (rest : List UInt8), parts f l n s acc = some (ps, rest) → ∃ p ts, s = p ++ l.fin :: rest ∧ Row f p ts ∧ ps = acc ++ ts ∧ ps.length ≠ 0 ∧ ¬ (l.shape = 2 ∧ 1 < ps.length)
  | 0, s, acc, ps, rest, h => by simp [parts] at h
  | n + 1, [], acc, ps, rest, h => by simp [parts] at h
  | n + 1, c :: r, acc, ps, rest, h => by
    unfold parts at h
    split at h
    · rename_i hc
      split at h
      · cases h
      · rename_i hn
        simp only [Option.some.injEq, Prod.mk.injEq] at h
        obtain ⟨rfl, rfl⟩ := h
        refine ⟨[], [], by simp [hc], .nil, by simp, fun e => hn (.inl e), fun e => hn (.inr e)⟩
    · split at h
      · cases h
      · rename_i t rest' ht
        obtain ⟨p, hp, ho⟩ := hf _ _ _ ht
        obtain ⟨q, ts, rfl, hr, rfl, h1, h2⟩ := parts_row hf l n rest' (acc ++ [t]) ps rest h
        exact ⟨p ++ q, t :: ts, by rw [hp, List.append_assoc], .cons ho hr, by simp, h1, h2⟩

theorem row_parts {f : List UInt8 → Option (Ty × List UInt8)} (l : Lt) (hl : isLeaf l.fin = false ∧ opens l.fin = false) {p : List UInt8} {ts : List Ty} (h : Row f p ts) :
    ∀ (n : Nat) (acc : List Ty) (rest : List UInt8), ts.length + 1 ≤ n → (acc ++ ts).length ≠ 0 → ¬ (l.shape = 2 ∧ 1 < (acc ++ ts).length) → parts f l n (p ++ l.fin :: rest) acc = some (acc ++ ts, rest) := by
  induction h with
  | nil =>
    intro n acc rest hn h1 h2
    obtain ⟨m, rfl⟩ : ∃ m, n = m + 1 := ⟨n - 1, by simp at hn; omega⟩
    rw [List.append_nil] at h1 h2 ⊢
    rw [List.nil_append, parts, if_pos rfl, if_neg (fun e => e.elim h1 h2)]
  | cons h hq ih =>
    rename_i p q t ts
    intro n acc rest hn h1 h2
    obtain ⟨m, rfl⟩ : ∃ m, n = m + 1 := ⟨n - 1, by simp at hn; omega⟩
    obtain ⟨c, r, e, hc⟩ := h.head
    have hne : ¬ c = l.fin := fun e => by rw [e] at hc; rw [hl.1, hl.2] at hc; simp at hc
    have hr := h.reads (q ++ l.fin :: rest)
    rw [e, List.cons_append] at hr
    have h3 := ih m (acc ++ [t]) rest (by simp at hn; omega) (by simp) (by simpa using h2)
    rw [List.append_assoc, e, List.cons_append, parts, if_neg hne, hr]
    simp only
    rw [h3]
    simp

theorem fin_plain {l : Lt} {c : UInt8} (h : mates c l.fin = true) : isLeaf l.fin = false ∧ opens l.fin = false := by
  generalize l.fin = d at h
  unfold mates at h
  simp only [Bool.or_eq_true, Bool.and_eq_true, beq_iff_eq] at h
  rcases h with ⟨rfl, rfl⟩ | ⟨rfl, rfl⟩ <;> decide

theorem one_leaf {k : Nat} {c : UInt8} {l : Lt} (h : find c = some l) (h0 : l.fin = 0) (hl : isLeaf c = true) : One (ptype (k + 1)) [c] (.mk l []) :=
  ⟨fun any => by rw [List.singleton_append, ptype, h]; simp only; rw [if_pos h0], Bal.leaf hl, fun any => by rw [List.singleton_append, firstL, (leaf_open hl).1]; rfl, ⟨c, [], rfl, .inl hl⟩⟩

theorem one_row {k : Nat} {c : UInt8} {l : Lt} (h : find c = some l) (h0 : l.fin ≠ 0) (hm : mates c l.fin = true) {p : List UInt8} {ts : List Ty} (hr : Row (ptype k) p ts) (h1 : ts.length ≠ 0) (h2 : ¬ (l.shape = 2 ∧ 1 < ts.length)) :
    One (ptype (k + 1)) (c :: (p ++ [l.fin])) (.mk l ts) :=
  ⟨fun any => by
      have e := row_parts l (fin_plain hm) hr ((p ++ l.fin :: any).length + 1) [] any (by have := hr.len; simp; omega) (by simpa using h1) (by simpa using h2)
      rw [List.cons_append, List.append_assoc, List.singleton_append, ptype, h]
      simp only
      rw [if_neg h0, e]
      rfl,
    Bal.brackets hm hr.bal,
    fun any => by
      have e := closes_brackets hm hr.bal any
      rw [List.cons_append, List.append_assoc, List.singleton_append, firstL, (mates_open hm).1, if_pos rfl, e]
      simp only
      rw [List.take_succ_cons, List.take_append, List.take_of_length_le (by omega), show p.length + 1 - p.length = 1 by omega]
      rfl,
    ⟨c, _, rfl, .inr (mates_open hm).1⟩⟩

theorem ptype_one : ∀ (k : Nat) (s : List UInt8) (t : Ty) (rest : List UInt8), ptype k s = some (t, rest) → ∃ p, s = p ++ rest ∧ One (ptype k) p t
  | 0, s, t, rest, h => by simp [ptype] at h
  | k + 1, [], t, rest, h => by simp [ptype] at h
  | k + 1, c :: r, t, rest, h => by
    unfold ptype at h
    split at h
    · cases h
    · rename_i l hl
      obtain ⟨hs, hcase⟩ := find_leaf hl
      split at h
      · rename_i h0
        simp only [Option.some.injEq, Prod.mk.injEq] at h
        obtain ⟨rfl, rfl⟩ := h
        rcases hcase with ⟨_, hlf, _⟩ | ⟨_, h0', _⟩
        · exact ⟨[c], rfl, one_leaf hl h0 hlf⟩
        · exact absurd h0 h0'
      · rename_i h0
        split at h
        · cases h
        · rename_i ps rest' hp
          simp only [Option.some.injEq, Prod.mk.injEq] at h
          obtain ⟨rfl, rfl⟩ := h
          obtain ⟨p, ts, rfl, hr, e, h1, h2⟩ := parts_row (fun s t rest h => ptype_one k s t rest h) l _ _ _ _ _ hp
          rw [List.nil_append] at e
          subst e
          rcases hcase with ⟨h0', _⟩ | ⟨hm, _, _⟩
          · exact absurd h0' h0
          · exact ⟨c :: (p ++ [l.fin]), by simp, one_row hl h0 hm hr h1 h2⟩

theorem one_inv {k : Nat} {s : List UInt8} {t : Ty} (h : ptype (k + 1) s = some (t, [])) :
    (∃ c l, s = [c] ∧ find c = some l ∧ l.fin = 0 ∧ isLeaf c = true ∧ t = .mk l []) ∨
    (∃ c l p ts, s = c :: (p ++ [l.fin]) ∧ find c = some l ∧ mates c l.fin = true ∧ Row (ptype k) p ts ∧ t = .mk l ts ∧ ts.length ≠ 0 ∧ ¬ (l.shape = 2 ∧ 1 < ts.length) ∧ (l.shape = 2 ∧ c = 91 ∨ l.shape = 3 ∧ c = 40)) := by
  cases s with
  | nil => simp [ptype] at h
  | cons c r =>
    unfold ptype at h
    split at h
    · cases h
    · rename_i l hl
      obtain ⟨hs, hcase⟩ := find_leaf hl
      split at h
      · rename_i h0
        simp only [Option.some.injEq, Prod.mk.injEq] at h
        obtain ⟨rfl, rfl⟩ := h
        rcases hcase with ⟨_, hlf, _⟩ | ⟨_, h0', _⟩
        · exact .inl ⟨c, l, rfl, hl, h0, hlf, rfl⟩
        · exact absurd h0 h0'
      · rename_i h0
        split at h
        · cases h
        · rename_i ps rest' hp
          simp only [Option.some.injEq, Prod.mk.injEq] at h
          obtain ⟨rfl, rfl⟩ := h
          obtain ⟨p, ts, rfl, hr, e, h1, h2⟩ := parts_row (fun s t rest h => ptype_one k s t rest h) l _ _ _ _ _ hp
          rw [List.nil_append] at e
          subst e
          rcases hcase with ⟨h0', _⟩ | ⟨hm, _, hsh⟩
          · exact absurd h0' h0
          · exact .inr ⟨c, l, p, ps, rfl, hl, hm, hr, rfl, h1, h2, hsh⟩

theorem Row.one {f : List UInt8 → Option (Ty × List UInt8)} {p : List UInt8} {t : Ty} {ts : List Ty} (h : Row f p (t :: ts)) : ∃ q r, p = q ++ r ∧ One f q t ∧ Row f r ts := by
  cases h with
  | cons h hq => exact ⟨_, _, rfl, h, hq⟩

theorem Row.empty {f : List UInt8 → Option (Ty × List UInt8)} {ts : List Ty} (h : Row f [] ts) : ts = [] := by
  have := h.len
  exact List.length_eq_zero_iff.1 (by simpa using this)

theorem Row.pos {f : List UInt8 → Option (Ty × List UInt8)} {p : List UInt8} {t : Ty} {ts : List Ty} (h : Row f p (t :: ts)) : p ≠ [] := fun e => by
  rw [e] at h
  have := h.empty
  cases this

end Orch

/- The document's answer: which texts are schemas. -/
namespace Go.Proofs.YtlghcldiboecoaaGreatDoor
open Go.RowKit

theorem hid {p : Prop} (h : p) : Hid p := h

def resZ : Option Nat → Int
  | none => -1
  | some i => i

def closesZ (l : List UInt8) : Int := resZ (Orch.closesFrom 0 l)

theorem cnt_bd (n : Int) (c : UInt8) : n - 1 ≤ Orch.cnt n c ∧ Orch.cnt n c ≤ n + 1 := by
  unfold Orch.cnt
  split <;> split <;> omega

theorem cnt_cases (n : Int) (c : UInt8) : Orch.cnt n c = (n + (if c.toNat = 91 ∨ c.toNat = 40 then 1 else 0)) - (if c.toNat = 93 ∨ c.toNat = 41 then 1 else 0) := by
  have e : ∀ (k : Nat) (hk : k < 256), (c == UInt8.ofNat k) = decide (c.toNat = k) := fun k hk => by
    rw [Bool.eq_iff_iff, beq_iff_eq, decide_eq_true_iff]
    constructor
    · rintro rfl; simp; omega
    · intro h; rw [← h]; simp
  have e1 := e 91 (by omega)
  have e2 := e 40 (by omega)
  have e3 := e 93 (by omega)
  have e4 := e 41 (by omega)
  unfold Orch.cnt Orch.opens Orch.shuts
  simp only [show (91 : UInt8) = UInt8.ofNat 91 from rfl, show (40 : UInt8) = UInt8.ofNat 40 from rfl, show (93 : UInt8) = UInt8.ofNat 93 from rfl, show (41 : UInt8) = UInt8.ofNat 41 from rfl, e1, e2, e3, e4, Bool.or_eq_true, decide_eq_true_iff]
  split <;> split <;> omega

set_option maxRecDepth 8000 in
set_option maxHeartbeats 1000000 in
theorem closes_any (s : ByteArray) (w : World) (hs : s.size ≤ 140737488355328) :
    Calls Tryz.prog 240 #[.string s] w fun e w' => e = .returned (.int .i64 (closesZ s.data.toList)) ∧ w' = w := by
  obtain ⟨R, hR⟩ : ∃ R, Orch.closesFrom 0 s.data.toList = R := ⟨_, rfl⟩
  have HC : Hid (closesZ s.data.toList = resZ R) := by show _ = _; unfold closesZ; rw [hR]
  have HR := hid hR
  clear hR
  go_enter Tryz.func240, Tryz.ntmps240
  go_wp2
  go_loop [3, 4] (fun o i => ∃ (k : Nat) (n : Int), k ≤ s.size ∧ i = .int .i64 k ∧ o = .int .i64 n ∧ -(k : Int) ≤ n ∧ n ≤ k ∧ Hid (R = (Orch.closesFrom n (s.data.toList.drop k)).map (· + k))) (fun _ i => s.size - (intOf i).toNat)
  case atStart => exact ⟨0, 0, Nat.zero_le _, rfl, rfl, by omega, by omega, by show _ = _; rw [← HR.out]; simp⟩
  case round =>
    obtain ⟨k, n, hk, rfl, rfl, hn0, hn1, HK⟩ := hrel
    by_cases hlt : k < s.size
    · have hkz : (k : Int) < (s.size : Int) := by omega
      have hdr : s.data.toList.drop k = s[k] :: s.data.toList.drop (k + 1) := List.drop_eq_getElem_cons (by simpa using hlt)
      have HK2 : Hid (R = if Orch.cnt n s[k] = 0 then some k else (Orch.closesFrom (Orch.cnt n s[k]) (s.data.toList.drop (k + 1))).map (· + (k + 1))) := by
        show _ = _
        rw [HK.out, hdr, Orch.closesFrom]
        split
        · simp
        · rw [Option.map_map]
          congr 1
          funext i
          simp only [Function.comp]
          omega
      have hcb := cnt_bd n s[k]
      have hcc := cnt_cases n s[k]
      clear HK hdr
      have hc : s[k].toNat < 256 := s[k].toNat_lt
      generalize hcv : s[k].toNat = cv at *
      have HCC := hid hcc
      clear hcc
      generalize Orch.cnt n s[k] = m at *
      have hcvz : (cv : Int) < 256 := by omega
      have five : (cv = 91 ∧ m = n + 1) ∨ (cv = 40 ∧ m = n + 1) ∨ (cv = 93 ∧ m = n - 1) ∨ (cv = 41 ∧ m = n - 1) ∨ ((¬ cv = 91 ∧ ¬ cv = 40 ∧ ¬ cv = 93 ∧ ¬ cv = 41) ∧ m = n) := by
        have := HCC.out
        split at this <;> split at this <;> omega
      clear HCC hcvz
      rcases five with ⟨rfl, rfl⟩ | ⟨rfl, rfl⟩ | ⟨rfl, rfl⟩ | ⟨rfl, rfl⟩ | ⟨⟨a1, a2, a3, a4⟩, rfl⟩
      · by_cases h0 : n + 1 = 0
        · have HF : Hid (R = some k) := by show _ = _; rw [HK2.out, if_pos h0]
          clear HK2
          go_wp2
          go_ret
          exact ⟨by rw [HC.out, HF.out]; rfl, rfl⟩
        · have HF : Hid (R = (Orch.closesFrom (n + 1) (s.data.toList.drop (k + 1))).map (· + (k + 1))) := by show _ = _; rw [HK2.out, if_neg h0]
          clear HK2
          go_wp2
          go_round
          case rel => exact ⟨k + 1, n + 1, by omega, by go_num, by first | rfl | go_num, by omega, by omega, HF⟩
          case measure => simp [intOf]; omega
      · by_cases h0 : n + 1 = 0
        · have HF : Hid (R = some k) := by show _ = _; rw [HK2.out, if_pos h0]
          clear HK2
          go_wp2
          go_ret
          exact ⟨by rw [HC.out, HF.out]; rfl, rfl⟩
        · have HF : Hid (R = (Orch.closesFrom (n + 1) (s.data.toList.drop (k + 1))).map (· + (k + 1))) := by show _ = _; rw [HK2.out, if_neg h0]
          clear HK2
          go_wp2
          go_round
          case rel => exact ⟨k + 1, n + 1, by omega, by go_num, by first | rfl | go_num, by omega, by omega, HF⟩
          case measure => simp [intOf]; omega
      · by_cases h0 : n - 1 = 0
        · have HF : Hid (R = some k) := by show _ = _; rw [HK2.out, if_pos h0]
          clear HK2
          go_wp2
          go_ret
          exact ⟨by rw [HC.out, HF.out]; rfl, rfl⟩
        · have HF : Hid (R = (Orch.closesFrom (n - 1) (s.data.toList.drop (k + 1))).map (· + (k + 1))) := by show _ = _; rw [HK2.out, if_neg h0]
          clear HK2
          go_wp2
          go_round
          case rel => exact ⟨k + 1, n - 1, by omega, by go_num, by first | rfl | go_num, by omega, by omega, HF⟩
          case measure => simp [intOf]; omega
      · by_cases h0 : n - 1 = 0
        · have HF : Hid (R = some k) := by show _ = _; rw [HK2.out, if_pos h0]
          clear HK2
          go_wp2
          go_ret
          exact ⟨by rw [HC.out, HF.out]; rfl, rfl⟩
        · have HF : Hid (R = (Orch.closesFrom (n - 1) (s.data.toList.drop (k + 1))).map (· + (k + 1))) := by show _ = _; rw [HK2.out, if_neg h0]
          clear HK2
          go_wp2
          go_round
          case rel => exact ⟨k + 1, n - 1, by omega, by go_num, by first | rfl | go_num, by omega, by omega, HF⟩
          case measure => simp [intOf]; omega
      · have b1 : ((cv : Int) == 91) = false := by rw [beq_eq_false_iff_ne]; omega
        have b2 : ((cv : Int) == 40) = false := by rw [beq_eq_false_iff_ne]; omega
        have b3 : ((cv : Int) == 93) = false := by rw [beq_eq_false_iff_ne]; omega
        have b4 : ((cv : Int) == 41) = false := by rw [beq_eq_false_iff_ne]; omega
        by_cases h0 : m = 0
        · have HF : Hid (R = some k) := by show _ = _; rw [HK2.out, if_pos h0]
          clear HK2
          go_wp2
          go_ret
          exact ⟨by rw [HC.out, HF.out]; rfl, rfl⟩
        · have HF : Hid (R = (Orch.closesFrom (m) (s.data.toList.drop (k + 1))).map (· + (k + 1))) := by show _ = _; rw [HK2.out, if_neg h0]
          clear HK2
          go_wp2
          go_round
          case rel => exact ⟨k + 1, m, by omega, by go_num, by first | rfl | go_num, by omega, by omega, HF⟩
          case measure => simp [intOf]; omega
    · have hkz : ¬ (k : Int) < (s.size : Int) := by omega
      have HN : Hid (R = none) := by
        show _ = _
        rw [HK.out, List.drop_eq_nil_of_le (by simp; omega)]
        rfl
      go_wp2
      go_ret
      exact ⟨by rw [HC.out, HN.out]; rfl, rfl⟩

theorem closes_lt : ∀ (l : List UInt8) (n : Int) (i : Nat), Orch.closesFrom n l = some i → i < l.length
  | [], n, i, h => by simp [Orch.closesFrom] at h
  | c :: r, n, i, h => by
    unfold Orch.closesFrom at h
    split at h
    · simp only [Option.some.injEq] at h
      subst h
      simp
    · simp only [Option.map_eq_some_iff] at h
      obtain ⟨j, hj, rfl⟩ := h
      have := closes_lt r _ j hj
      simp
      omega

set_option maxRecDepth 8000 in
set_option maxHeartbeats 1000000 in
theorem first_any (s : ByteArray) (w : World) (hs : s.size ≤ 140737488355328) (h1 : 1 ≤ s.size) :
    Calls Tryz.prog 175 #[.string s] w fun e w' => (∃ t : ByteArray, t.data.toList = Orch.firstL s.data.toList ∧ e = .returned (.string t)) ∧ w' = w := by
  have hcl := closes_any s w hs
  have hlen : s.data.toList.length = s.size := by simp [Array.length_toList]
  obtain ⟨c, r, hcr⟩ : ∃ c r, s.data.toList = c :: r := by
    cases h : s.data.toList with
    | nil => rw [h] at hlen; simp at hlen; omega
    | cons c r => exact ⟨c, r, rfl⟩
  have hc0 : s[0] = c := by
    have : s.data.toList[0]'(by rw [hlen]; omega) = c := by simp only [hcr, List.getElem_cons_zero]
    exact this
  have hext : ∀ j, (s.extract 0 j).data.toList = s.data.toList.take j := fun j => by
    rw [ByteArray.data_extract, Array.toList_extract, List.extract_eq_take_drop, List.drop_zero, Nat.sub_zero]
  have hcl' : ∀ i, Orch.closesFrom 0 s.data.toList = some i → i < s.size := fun i hi => by have := closes_lt _ _ _ hi; omega
  have HEX := hid hext
  have hop : Orch.opens c = decide (s[0].toNat = 91 ∨ s[0].toNat = 40) := by
    rw [hc0]
    unfold Orch.opens
    rw [Bool.eq_iff_iff, Bool.or_eq_true, beq_iff_eq, beq_iff_eq, decide_eq_true_iff]
    constructor
    · rintro (rfl | rfl) <;> simp
    · rintro (h | h)
      · exact .inl (UInt8.toNat_inj.1 h)
      · exact .inr (UInt8.toNat_inj.1 h)
  have HF0 : Hid (Orch.opens c = false → Orch.firstL s.data.toList = s.data.toList.take 1) := fun h => by rw [hcr, Orch.firstL, h]; rfl
  have HF1 : Hid (Orch.opens c = true → Orch.closesFrom 0 s.data.toList = none → Orch.firstL s.data.toList = s.data.toList) := fun h h' => by
    rw [hcr] at h' ⊢
    rw [Orch.firstL, h, if_pos rfl, h']
  have HF2 : Hid (∀ i, Orch.opens c = true → Orch.closesFrom 0 s.data.toList = some i → Orch.firstL s.data.toList = s.data.toList.take (i + 1)) := fun i h h' => by
    rw [hcr] at h' ⊢
    rw [Orch.firstL, h, if_pos rfl, h']
  have HOP := hid hop
  have HCL := hid hcl
  clear hext hop hcr hc0 hcl
  have h0z : (0 : Int) < (s.size : Int) := by omega
  have hsz : 0 < s.size := by omega
  have h256 := s[0].toNat_lt
  generalize hcv : s[0].toNat = cv at *
  by_cases hq : cv = 91 ∨ cv = 40
  · have ho : Orch.opens c = true := by rw [HOP.out, decide_eq_true hq]
    have HO := hid ho
    clear ho HOP
    cases hR : Orch.closesFrom 0 s.data.toList with
    | none =>
      have HL := hid (HF1.out HO.out hR)
      have HZ : Hid (closesZ s.data.toList = -1) := by show _ = _; unfold closesZ; rw [hR]; rfl
      rw [HZ.out] at HCL
      clear HF0 HF1 HF2 hR
      rcases hq with rfl | rfl
      all_goals
        go_enter Tryz.func175, Tryz.ntmps175
        go_wp2_with (go_at_call 240; refine HCL.out.mono ?_; rintro e w1 ⟨rfl, hw1⟩; have hw2 := hw1.symm; clear hw1; subst hw2)
        go_ret
        exact ⟨⟨s, HL.out.symm, rfl⟩, rfl⟩
    | some i =>
      have HL := hid (HF2.out i HO.out hR)
      have hi := hcl' i hR
      have HZ : Hid (closesZ s.data.toList = (i : Int)) := by show _ = _; unfold closesZ; rw [hR]; rfl
      rw [HZ.out] at HCL
      clear HF0 HF1 HF2 hR hcl'
      have hi1 : (i : Int) + 1 ≤ (s.size : Int) := by omega
      rcases hq with rfl | rfl
      all_goals
        go_enter Tryz.func175, Tryz.ntmps175
        go_wp2_with (go_at_call 240; refine HCL.out.mono ?_; rintro e w1 ⟨rfl, hw1⟩; have hw2 := hw1.symm; clear hw1; subst hw2)
        go_ret
        exact ⟨⟨_, by rw [HL.out]; exact HEX.out (i + 1), rfl⟩, rfl⟩
  · have ho : Orch.opens c = false := by rw [HOP.out, decide_eq_false hq]
    have HL := hid (HF0.out ho)
    clear ho HOP HF0 HF1 HF2 hcl' HCL
    have b1 : ((cv : Int) == 91) = false := by rw [beq_eq_false_iff_ne]; omega
    have b2 : ((cv : Int) == 40) = false := by rw [beq_eq_false_iff_ne]; omega
    have b3 : ((cv : Int) != 91) = true := by simp [bne, b1]
    have b4 : ((cv : Int) != 40) = true := by simp [bne, b2]
    have hs1 : (1 : Int) ≤ (s.size : Int) := by omega
    go_enter Tryz.func175, Tryz.ntmps175
    go_wp2
    go_ret
    exact ⟨⟨_, by rw [HL.out]; exact HEX.out 1, rfl⟩, rfl⟩

end Go.Proofs.YtlghcldiboecoaaGreatDoor

/- The document's answer: a number in so many bytes. -/
namespace Go.Proofs.YtlghcldiboecoaaGreatDoor
open Go.RowKit

theorem be_drop (n : Int) : ∀ (k r : Nat), r < k → (Orch.be n k).drop r = UInt8.ofNat ((n / 256 ^ (k - 1 - r)) % 256).toNat :: (Orch.be n k).drop (r + 1)
  | 0, r, h => by omega
  | k + 1, 0, _ => by simp [Orch.be]
  | k + 1, r + 1, h => by
    rw [Orch.be, List.drop_succ_cons, List.drop_succ_cons, be_drop n k r (by omega), show k + 1 - 1 - (r + 1) = k - 1 - r by omega]

def rowR (n : Int) (bs r : Nat) : Array Value := (List.replicate r (Value.int .u8 0) ++ bcells ((Orch.be n bs).drop r)).toArray

theorem rowR_size (n : Int) (bs r : Nat) (h : r ≤ bs) : (rowR n bs r).size = bs := by
  unfold rowR bcells
  simp [Orch.be_length]
  omega

theorem rowR_set (n : Int) (bs r : Nat) (h : r < bs) : (rowR n bs (r + 1)).setIfInBounds r (.int .u8 ((UInt8.ofNat ((n / 256 ^ (bs - 1 - r)) % 256).toNat).toNat : Nat)) = rowR n bs r := by
  unfold rowR
  rw [be_drop n bs r h, List.setIfInBounds_toArray]
  congr 1
  rw [List.set_append_left _ _ (by simp), List.replicate_succ', List.set_append_right _ _ (by simp)]
  simp [bcells]

theorem div_pow (n : Int) (k : Nat) : n / 256 ^ k / 256 = n / 256 ^ (k + 1) := by
  rw [Int.pow_succ, Int.ediv_ediv_of_nonneg (Int.le_of_lt (Int.pow_pos (by omega)))]

theorem div_bd (n : Int) (k : Nat) (h0 : -9223372036854775808 ≤ n) (h1 : n ≤ 9223372036854775807) : -9223372036854775808 ≤ n / 256 ^ k ∧ n / 256 ^ k ≤ 9223372036854775807 := by
  have hp : (0 : Int) < 256 ^ k := Int.pow_pos (by omega)
  have hp1 : (1 : Int) ≤ 256 ^ k := hp
  constructor
  · rw [Int.le_ediv_iff_mul_le hp]
    have : (-9223372036854775808 : Int) * 256 ^ k ≤ -9223372036854775808 * 1 := Int.mul_le_mul_of_nonpos_left (by omega) hp1
    omega
  · apply Int.ediv_le_of_le_mul hp
    have : (9223372036854775807 : Int) * 1 ≤ 9223372036854775807 * 256 ^ k := Int.mul_le_mul_of_nonneg_left hp1 (by omega)
    omega

set_option maxRecDepth 8000 in
set_option maxHeartbeats 1000000 in
theorem bytesOf_any (w : World) (n : Int) (h0 : -9223372036854775808 ≤ n) (h1 : n ≤ 9223372036854775807) (bs : Nat) (hb1 : 1 ≤ bs) (hb8 : bs ≤ 8) :
    Calls Tryz.prog 78 #[.int .i64 n, .int .i64 bs] w fun e w' => (∃ ov, e = .returned ov ∧ w'.ownsRow w.heap.size 5 1 ov bs (bcells (Orch.be n bs))) ∧ Below w.heap.size w w' := by
  have hmk := run_make_row' (P := Tryz.prog) 57 5 (.int .u8 0) 1 Tryz.underlying57 Tryz.info5 rfl .i64 .i64 bs (by omega) (by omega)
  have hst : (madeCells #[Value.int .u8 0] bs) = rowR n bs bs := by
    apply Array.ext'
    rw [toList_madeCells_one]
    unfold rowR bcells
    rw [List.drop_eq_nil_of_le (by rw [Orch.be_length]; omega)]
    simp
  rw [hst] at hmk
  have HNEW := hid (heap_alloc_new w (.cells (rowR n bs bs) 5))
  have HB0 : Hid (Below w.heap.size w (w.alloc (.cells (rowR n bs bs) 5))) := below1 _ _
  clear hst
  go_enter Tryz.func78, Tryz.ntmps78
  go_wp2
  clear hmk
  generalize w.alloc (.cells (rowR n bs bs) 5) = w0 at *
  go_loopw [0, 6] (fun nn i wr => ∃ r : Nat, r ≤ bs ∧ i = .int .i64 ((r : Int) - 1) ∧ nn = .int .i64 (n / 256 ^ (bs - r)) ∧ Hid (wr.heap[w.heap.size]? = some (.cells (rowR n bs r) 5)) ∧ Hid (Below w.heap.size w wr)) (fun _ i _ => (intOf i + 1).toNat)
  case atStart => exact ⟨bs, by omega, rfl, by simp, HNEW, HB0⟩
  case round =>
    obtain ⟨r, hr, rfl, rfl, HR, HB⟩ := hrel
    cases r with
    | zero =>
      have hz : ¬ (0 : Int) ≤ ((0 : Nat) : Int) - 1 := by omega
      go_wp2
      go_ret
      refine ⟨⟨_, rfl, ?_⟩, HB.out⟩
      refine ⟨by rw [show (bcells (Orch.be n bs)).length = bs by simp [bcells, Orch.be_length], Nat.mul_one], .inr ⟨w.heap.size, bs, rowR n bs 0, rfl, Nat.le_refl _, HR.out, Nat.le_refl _, by unfold maxLen; omega, by rw [rowR_size n bs 0 (by omega), Nat.mul_one], ?_⟩⟩
      rw [Nat.mul_one]
      unfold rowR
      simp only [List.replicate_zero, List.nil_append, List.drop_zero]
      exact List.take_of_length_le (by simp [bcells, Orch.be_length])
    | succ r =>
      have hrz : ((r + 1 : Nat) : Int) - 1 = (r : Int) := by omega
      rw [hrz]
      have hr0 : (0 : Int) ≤ (r : Int) := by omega
      have hrb : (r : Int) < (bs : Int) := by omega
      have hcell := cellOf (j := r) (u := (rowR n bs (r + 1))[r]'(by rw [rowR_size _ _ _ (by omega)]; omega)) HR.out (Array.getElem?_eq_getElem _)
      have hfz := frozenOf (j := r) HR.out
      obtain ⟨hd0, hd1⟩ := div_bd n (bs - (r + 1)) h0 h1
      have hnext : (n / 256 ^ (bs - (r + 1))) / 256 = n / 256 ^ (bs - r) := by rw [div_pow, show bs - (r + 1) + 1 = bs - r by omega]
      have hset := rowR_set n bs r (by omega)
      rw [show bs - 1 - r = bs - (r + 1) by omega] at hset
      generalize n / 256 ^ (bs - (r + 1)) = q at *
      have hu8 : ((UInt8.ofNat (q % 256).toNat).toNat : Int) = q % 256 := by
        have hq0 : 0 ≤ q % 256 := Int.emod_nonneg _ (by omega)
        have hq1 : q % 256 < 256 := Int.emod_lt_of_pos _ (by omega)
        rw [UInt8.toNat_ofNat']
        omega
      rw [hu8] at hset
      have HSET := hid hset
      have HNX := hid hnext
      have hblk := heap_setCell_same wr w.heap.size r _ 5 (.int .u8 (q % 256)) HR.out
      rw [HSET.out] at hblk
      have HBLK : Hid ((wr.setCell ⟨w.heap.size, r, none⟩ (.int .u8 (q % 256))).heap[w.heap.size]? = some (.cells (rowR n bs r) 5)) := hblk
      have HB2 : Hid (Below w.heap.size w (wr.setCell ⟨w.heap.size, r, none⟩ (.int .u8 (q % 256)))) := HB.out.setCell (p := ⟨w.heap.size, r, none⟩) (Nat.le_refl _) _
      clear hset hnext hblk hu8
      generalize (rowR n bs (r + 1))[r]'_ = old at *
      go_wp2
      go_roundw
      case rel => exact ⟨r, by omega, by first | rfl | go_num, by rw [← HNX.out], HBLK, HB2⟩
      case measure => simp [intOf]

theorem own_bytes' {w : World} {base : Nat} {ov : Value} {n : Nat} {xs : List Value} (h : w.ownsRow base 5 1 ov n xs) (h0 : 0 < n) : ∃ g cap, ov = .slice (some ⟨g, 0, none⟩) n cap ∧ (∀ j u, xs[j]? = some u → w.cell? ((⟨g, 0, none⟩ : Addr).add j) = some u) := by
  rcases h.2 with ⟨_, h1⟩ | ⟨g, cap, cur, rfl, _⟩
  · omega
  · exact ⟨g, cap, rfl, fun j u hj => h.cells rfl j u hj⟩

end Go.Proofs.YtlghcldiboecoaaGreatDoor

/- The caller's books: marks. -/
namespace Go.Proofs.YtlghcldiboecoaaGreatDoor
open Go.RowKit

def mark (n i : Nat) : UInt8 := if i % 2 = 0 then UInt8.ofNat (1 + n % 251) else UInt8.ofNat (1 + n / 251 % 251)

theorem num_any (w : World) (n : Int) (h0 : -9223372036854775808 ≤ n) (h1 : n ≤ 9223372036854775807) : Calls Tryz.prog 84 #[.int .i64 n] w fun e w' => e = .returned (.int .i64 n) ∧ w' = w := by
  go_enter Tryz.func84, Tryz.ntmps84
  go_wp2
  all_goals go_ret
  all_goals exact ⟨rfl, rfl⟩

theorem mark_even {n i : Nat} (h : i % 2 = 0) : ((mark n i).toNat : Int) = 1 + n % 251 := by
  unfold mark
  rw [if_pos h, UInt8.toNat_ofNat']
  omega

theorem mark_odd {n i : Nat} (h : ¬ i % 2 = 0) : ((mark n i).toNat : Int) = 1 + n / 251 % 251 := by
  unfold mark
  rw [if_neg h, UInt8.toNat_ofNat']
  omega

theorem markByte_any (w : World) (n i : Nat) (hn : n ≤ 9223372036854775807) (hi : i ≤ 9223372036854775807) : Calls Tryz.prog 114 #[.int .i64 n, .int .i64 i] w fun e w' => e = .returned (.int .u8 (mark n i).toNat) ∧ w' = w := by
  by_cases h : i % 2 = 0
  · rw [mark_even h]
    have hb : (((i : Int) % 2) == 0) = true := by rw [beq_iff_eq]; omega
    go_enter Tryz.func114, Tryz.ntmps114
    go_wp2
    all_goals go_ret
    all_goals exact ⟨rfl, rfl⟩
  · rw [mark_odd h]
    have hb : (((i : Int) % 2) == 0) = false := by rw [beq_eq_false_iff_ne]; omega
    go_enter Tryz.func114, Tryz.ntmps114
    go_wp2
    all_goals go_ret
    all_goals exact ⟨rfl, rfl⟩

set_option maxRecDepth 8000 in
set_option maxHeartbeats 2000000 in
theorem marked_any (w : World) (la : Option Addr) (ln lc n : Nat) (hn : n ≤ 9223372036854775807) (hl : ln ≤ 9223372036854775806) (hlc : ln ≤ lc)
    (HC : Hid (∀ i, i < ln → ∃ g, la = some ⟨g, 0, none⟩ ∧ g < w.heap.size ∧ w.cell? ⟨g, i, none⟩ = some (.int .u8 (mark n i).toNat))) :
    Calls Tryz.prog 56 #[.slice la ln lc, .int .i64 n] w fun e w' => e = .returned (.bool true) ∧ Below w.heap.size w w' := by
  have HM : Hid (∀ (W : World) (i : Nat), i < ln → Calls Tryz.prog 114 #[.int .i64 n, .int .i64 i] W fun e w' => e = .returned (.int .u8 (mark n i).toNat) ∧ w' = W) := fun W i hi => markByte_any W n i hn (by omega)
  go_enter Tryz.func56, Tryz.ntmps56
  go_wp2
  go_loopw [5] (fun k wr => ∃ i : Nat, k = .int .i64 i ∧ i ≤ ln ∧ Hid (Below w.heap.size w wr)) (fun k _ => ln - (intOf k).toNat)
  case atStart => exact ⟨0, rfl, Nat.zero_le _, Below.refl _ _⟩
  case round =>
    obtain ⟨i, rfl, hi, HB⟩ := hrel
    by_cases hlt : i < ln
    · have hltz : (i : Int) < (ln : Int) := by omega
      obtain ⟨g, hla, hg, hc⟩ := HC.out i hlt
      subst hla
      have hc1 : wr.cell? ⟨g, i, none⟩ = some (.int .u8 (mark n i).toNat) := (HB.out.cell (p := ⟨g, i, none⟩) hg).trans hc
      have HMi : Hid (∀ W : World, Calls Tryz.prog 114 #[.int .i64 n, .int .i64 i] W fun e w' => e = .returned (.int .u8 (mark n i).toNat) ∧ w' = W) := fun W => HM.out W i hlt
      clear hc
      generalize mark n i = mk at *
      go_wp2
      go_region_with (go_at_call 114; refine (HMi.out _).mono ?_; rintro e w1 ⟨rfl, hw1⟩; have hw2 := hw1.symm; clear hw1; subst hw2)
      all_goals go_wp2
      all_goals go_roundw
      all_goals try (case rel => exact ⟨i + 1, by go_num, by omega, by first | exact HB | exact HB.out.drew⟩)
      all_goals try (case measure => simp [intOf]; omega)
    · have hltz : ¬ (i : Int) < (ln : Int) := by omega
      go_wp2
      all_goals go_ret
      all_goals exact ⟨rfl, HB.out⟩

end Go.Proofs.YtlghcldiboecoaaGreatDoor

/- The caller's choice. -/
namespace Go.Proofs.YtlghcldiboecoaaGreatDoor
open Go.RowKit

theorem pick_any (w : World) (c : Int) (n : Nat) (h0 : -9223372036854775808 ≤ c) (h1 : c ≤ 9223372036854775807) (hn : 0 < n) (hn' : n ≤ 9223372036854775807) :
    Calls Tryz.prog 13 #[.int .i64 c, .int .i64 n] w fun e w' => (∃ z : Nat, z < n ∧ e = .returned (.int .i64 z)) ∧ w' = w := by
  have hz : (n : Int) ≠ 0 := by omega
  by_cases hc : c < 0
  · obtain ⟨d, rfl⟩ : ∃ d : Nat, c = -(d + 1 : Int) := ⟨(-(c + 1)).toNat, by omega⟩
    have HZ : Hid (-((-(d + 1 : Int) + 1).tmod n) = ((d % n : Nat) : Int)) := by
      show -((-(d + 1 : Int) + 1).tmod n) = ((d % n : Nat) : Int)
      rw [show (-(d + 1 : Int) + 1) = -(d : Int) by omega, Int.neg_tmod, Int.neg_neg]
      exact (Int.ofNat_tmod d n).symm
    go_enter Tryz.func13, Tryz.ntmps13
    go_wp2
    go_ret
    exact ⟨⟨d % n, Nat.mod_lt _ hn, congrArg (fun z => Ending.returned (Value.int .i64 z)) HZ.out⟩, rfl⟩
  · obtain ⟨d, rfl⟩ : ∃ d : Nat, c = (d : Int) := ⟨c.toNat, by omega⟩
    go_enter Tryz.func13, Tryz.ntmps13
    go_wp2
    go_ret
    exact ⟨⟨d % n, Nat.mod_lt _ hn, rfl⟩, rfl⟩

end Go.Proofs.YtlghcldiboecoaaGreatDoor

/- The caller's books: whole. -/
namespace Go.Proofs.YtlghcldiboecoaaGreatDoor
open Go.RowKit

def MkAt (w : World) (B n : Nat) (v : Value) : Prop :=
  ∃ la ln lc, v = .slice la ln lc ∧ ln ≤ 9223372036854775806 ∧ ln ≤ lc ∧ ∀ i, i < ln → ∃ g, la = some ⟨g, 0, none⟩ ∧ g < B ∧ w.cell? ⟨g, i, none⟩ = some (.int .u8 (mark n i).toNat)

theorem MkAt.below {w w' : World} {B n : Nat} {v : Value} (h : MkAt w B n v) (hb : Below B w w') : MkAt w' B n v := by
  obtain ⟨la, ln, lc, hv, h1, h2, h3⟩ := h
  refine ⟨la, ln, lc, hv, h1, h2, fun i hi => ?_⟩
  obtain ⟨g, hg, hB, hc⟩ := h3 i hi
  exact ⟨g, hg, hB, (hb.cell (p := ⟨g, i, none⟩) hB).trans hc⟩

theorem MkAt.calls {w : World} {B n : Nat} {v : Value} (h : MkAt w B n v) (hn : n ≤ 9223372036854775807) (hB : B ≤ w.heap.size) : Calls Tryz.prog 56 #[v, .int .i64 n] w fun e w' => e = .returned (.bool true) ∧ Below w.heap.size w w' := by
  obtain ⟨la, ln, lc, rfl, h1, h2, h3⟩ := h
  exact marked_any w la ln lc n hn h1 h2 (fun i hi => by
    obtain ⟨g, hg, hgB, hc⟩ := h3 i hi
    exact ⟨g, hg, Nat.lt_of_lt_of_le hgB hB, hc⟩)

end Go.Proofs.YtlghcldiboecoaaGreatDoor
