/- Plain mathematics of the document's answer: which texts are schemas, by counting brackets; that these are the texts which the parser reads. -/
import Derived.Test.YtlghcldiboecoaaGreatDoorPlain
set_option linter.unusedVariables false
namespace Orch

def opens (c : UInt8) : Bool := c == 91 || c == 40
def shuts (c : UInt8) : Bool := c == 93 || c == 41

/-- How many brackets are open behind a sign. -/
def cnt (n : Int) (c : UInt8) : Int := if shuts c then (if opens c then n + 1 else n) - 1 else (if opens c then n + 1 else n)

/-- Where the count comes to nought. -/
def closesFrom : Int → List UInt8 → Option Nat
  | _, [] => none
  | n, c :: r => if cnt n c = 0 then some 0 else (closesFrom (cnt n c) r).map (· + 1)

/-- The type that stands first in a row of types. -/
def firstL : List UInt8 → List UInt8
  | [] => []
  | c :: r => if opens c then (match closesFrom 0 (c :: r) with | none => c :: r | some i => (c :: r).take (i + 1)) else [c]

def isLeaf (c : UInt8) : Bool := c == 63 || c == 52 || c == 56 || c == 98 || c == 116
def mates (c d : UInt8) : Bool := c == 91 && d == 93 || c == 40 && d == 41

/-- How many types stand in a row; none, if one is none. -/
def rowL (f : List UInt8 → Bool) : Nat → List UInt8 → Nat → Option Nat
  | 0, _, _ => none
  | _ + 1, [], m => some m
  | n + 1, c :: r, m => if f (firstL (c :: r)) then rowL f n ((c :: r).drop (firstL (c :: r)).length) (m + 1) else none

/-- Is the text one type? -/
def isTy : Nat → List UInt8 → Bool
  | 0, _ => false
  | _ + 1, [] => false
  | _ + 1, [c] => isLeaf c
  | k + 1, c :: d :: r =>
    if closesFrom 0 (c :: d :: r) = some (r.length + 1) ∧ mates c ((d :: r).getLast?.getD 0) = true then
      match rowL (isTy k) (r.length + 2) ((d :: r).take r.length) 0 with
      | none => false
      | some m => m == 1 || (decide (1 < m) && c == 40)
    else false

/-- A text over which the count of open brackets goes without coming to nought. -/
def Bal (p : List UInt8) : Prop := ∀ n : Int, 1 ≤ n → ∀ x, closesFrom n (p ++ x) = (closesFrom n x).map (· + p.length)

theorem Bal.nil : Bal [] := fun n _ x => by simp

theorem Bal.append {p q : List UInt8} (hp : Bal p) (hq : Bal q) : Bal (p ++ q) := fun n hn x => by
  rw [List.append_assoc, hp n hn, hq n hn, Option.map_map]
  congr 1
  funext i
  simp only [Function.comp, List.length_append]
  omega

theorem leaf_open {c : UInt8} (h : isLeaf c = true) : opens c = false ∧ shuts c = false := by
  unfold isLeaf at h
  simp only [Bool.or_eq_true, beq_iff_eq] at h
  rcases h with (((rfl | rfl) | rfl) | rfl) | rfl <;> decide

theorem Bal.leaf {c : UInt8} (h : isLeaf c = true) : Bal [c] := fun n hn x => by
  obtain ⟨h1, h2⟩ := leaf_open h
  have e : cnt n c = n := by unfold cnt; rw [h1, h2]; simp
  rw [List.singleton_append, closesFrom, e, if_neg (by omega)]
  rfl

theorem mates_open {c d : UInt8} (h : mates c d = true) : opens c = true ∧ shuts c = false ∧ opens d = false ∧ shuts d = true := by
  unfold mates at h
  simp only [Bool.or_eq_true, Bool.and_eq_true, beq_iff_eq] at h
  rcases h with ⟨rfl, rfl⟩ | ⟨rfl, rfl⟩ <;> decide

theorem cnt_open {c : UInt8} (h1 : opens c = true) (h2 : shuts c = false) (n : Int) : cnt n c = n + 1 := by unfold cnt; rw [h1, h2]; simp
theorem cnt_shut {c : UInt8} (h1 : opens c = false) (h2 : shuts c = true) (n : Int) : cnt n c = n - 1 := by unfold cnt; rw [h1, h2]; simp

theorem Bal.brackets {c d : UInt8} {p : List UInt8} (h : mates c d = true) (hp : Bal p) : Bal (c :: (p ++ [d])) := fun n hn x => by
  obtain ⟨h1, h2, h3, h4⟩ := mates_open h
  rw [List.cons_append, closesFrom, cnt_open h1 h2, if_neg (by omega), List.append_assoc, hp (n + 1) (by omega), List.singleton_append, closesFrom, cnt_shut h3 h4, show n + 1 - 1 = n by omega, if_neg (by omega), Option.map_map, Option.map_map]
  congr 1
  funext i
  simp only [Function.comp, List.length_cons, List.length_append, List.length_nil]
  omega

theorem closes_brackets {c d : UInt8} {p : List UInt8} (h : mates c d = true) (hp : Bal p) (x : List UInt8) : closesFrom 0 (c :: (p ++ d :: x)) = some (p.length + 1) := by
  obtain ⟨h1, h2, h3, h4⟩ := mates_open h
  rw [closesFrom, cnt_open h1 h2, if_neg (by omega), hp (0 + 1) (by omega), closesFrom, cnt_shut h3 h4, if_pos (by omega)]
  simp

/-- A text that is one type, wherever it stands. -/
structure One (f : List UInt8 → Option (Ty × List UInt8)) (p : List UInt8) (t : Ty) : Prop where
  reads : ∀ any, f (p ++ any) = some (t, any)
  bal : Bal p
  first : ∀ any, firstL (p ++ any) = p
  head : ∃ c r, p = c :: r ∧ (isLeaf c = true ∨ opens c = true)

/-- Texts that are types, one behind the other. -/
inductive Row (f : List UInt8 → Option (Ty × List UInt8)) : List UInt8 → List Ty → Prop
  | nil : Row f [] []
  | cons {p q : List UInt8} {t : Ty} {ts : List Ty} (h : One f p t) (hq : Row f q ts) : Row f (p ++ q) (t :: ts)

theorem Row.bal {f : List UInt8 → Option (Ty × List UInt8)} {p : List UInt8} {ts : List Ty} (h : Row f p ts) : Bal p := by
  induction h with
  | nil => exact Bal.nil
  | cons h hq ih => exact h.bal.append ih

theorem Row.len {f : List UInt8 → Option (Ty × List UInt8)} {p : List UInt8} {ts : List Ty} (h : Row f p ts) : ts.length ≤ p.length := by
  induction h with
  | nil => simp
  | cons h hq ih =>
    obtain ⟨c, r, e, _⟩ := h.head
    rw [List.length_cons, List.length_append, e, List.length_cons]
    omega

theorem find_leaf {c : UInt8} {l : Lt} (h : find c = some l) : l.sign = c ∧ ((l.fin = 0 ∧ isLeaf c = true ∧ l.shape < 2) ∨ (mates c l.fin = true ∧ l.fin ≠ 0 ∧ (l.shape = 2 ∧ c = 91 ∨ l.shape = 3 ∧ c = 40))) := by
  unfold find letters at h
  simp only [List.find?_cons] at h
  repeat' split at h
  all_goals first
    | (injection h with h; subst h; rename_i hc; simp only [beq_iff_eq] at hc; subst hc; exact ⟨rfl, by decide⟩)
    | (simp at h)

theorem find_some {c : UInt8} (h : isLeaf c = true ∨ opens c = true) : ∃ l, find c = some l := by
  unfold isLeaf opens at h
  simp only [Bool.or_eq_true, beq_iff_eq] at h
  rcases h with ((((rfl | rfl) | rfl) | rfl) | rfl) | (rfl | rfl) <;> exact ⟨_, rfl⟩

/-- The parts of a bracket, taken apart. -/
theorem parts_row {f : List UInt8 → Option (Ty × List UInt8)} (hf : ∀ s t rest, f s = some (t, rest) → ∃ p, s = p ++ rest ∧ One f p t) (l : Lt) :
    ∀ (n : Nat) (s : List UInt8) (acc ps : List Ty) (rest : List UInt8), parts f l n s acc = some (ps, rest) → ∃ p ts, s = p ++ l.fin :: rest ∧ Row f p ts ∧ ps = acc ++ ts ∧ ps.length ≠ 0 ∧ ¬ (l.shape = 2 ∧ 1 < ps.length)
  | 0, s, acc, ps, rest, h => by simp [parts] at h
  | n + 1, [], acc, ps, rest, h => by simp [parts] at h
  | n + 1, c :: r, acc, ps, rest, h => by
    unfold parts at h
    split at h
    · rename_i hc
      split at h
      · cases h
      · rename_i hn
        simp only [Option.some.injEq, Prod.mk.injEq] at h
        obtain ⟨rfl, rfl⟩ := h
        refine ⟨[], [], by simp [hc], .nil, by simp, fun e => hn (.inl e), fun e => hn (.inr e)⟩
    · split at h
      · cases h
      · rename_i t rest' ht
        obtain ⟨p, hp, ho⟩ := hf _ _ _ ht
        obtain ⟨q, ts, rfl, hr, rfl, h1, h2⟩ := parts_row hf l n rest' (acc ++ [t]) ps rest h
        exact ⟨p ++ q, t :: ts, by rw [hp, List.append_assoc], .cons ho hr, by simp, h1, h2⟩

/-- .. and put together. -/
theorem row_parts {f : List UInt8 → Option (Ty × List UInt8)} (l : Lt) (hl : isLeaf l.fin = false ∧ opens l.fin = false) {p : List UInt8} {ts : List Ty} (h : Row f p ts) :
    ∀ (n : Nat) (acc : List Ty) (rest : List UInt8), ts.length + 1 ≤ n → (acc ++ ts).length ≠ 0 → ¬ (l.shape = 2 ∧ 1 < (acc ++ ts).length) → parts f l n (p ++ l.fin :: rest) acc = some (acc ++ ts, rest) := by
  induction h with
  | nil =>
    intro n acc rest hn h1 h2
    obtain ⟨m, rfl⟩ : ∃ m, n = m + 1 := ⟨n - 1, by simp at hn; omega⟩
    rw [List.append_nil] at h1 h2 ⊢
    rw [List.nil_append, parts, if_pos rfl, if_neg (fun e => e.elim h1 h2)]
  | cons h hq ih =>
    rename_i p q t ts
    intro n acc rest hn h1 h2
    obtain ⟨m, rfl⟩ : ∃ m, n = m + 1 := ⟨n - 1, by simp at hn; omega⟩
    obtain ⟨c, r, e, hc⟩ := h.head
    have hne : ¬ c = l.fin := fun e => by rw [e] at hc; rw [hl.1, hl.2] at hc; simp at hc
    have hr := h.reads (q ++ l.fin :: rest)
    rw [e, List.cons_append] at hr
    have h3 := ih m (acc ++ [t]) rest (by simp at hn; omega) (by simp) (by simpa using h2)
    rw [List.append_assoc, e, List.cons_append, parts, if_neg hne, hr]
    simp only
    rw [h3]
    simp

theorem fin_plain {l : Lt} {c : UInt8} (h : mates c l.fin = true) : isLeaf l.fin = false ∧ opens l.fin = false := by
  generalize l.fin = d at h
  unfold mates at h
  simp only [Bool.or_eq_true, Bool.and_eq_true, beq_iff_eq] at h
  rcases h with ⟨rfl, rfl⟩ | ⟨rfl, rfl⟩ <;> decide

theorem one_leaf {k : Nat} {c : UInt8} {l : Lt} (h : find c = some l) (h0 : l.fin = 0) (hl : isLeaf c = true) : One (ptype (k + 1)) [c] (.mk l []) :=
  ⟨fun any => by rw [List.singleton_append, ptype, h]; simp only; rw [if_pos h0], Bal.leaf hl, fun any => by rw [List.singleton_append, firstL, (leaf_open hl).1]; rfl, ⟨c, [], rfl, .inl hl⟩⟩

theorem one_row {k : Nat} {c : UInt8} {l : Lt} (h : find c = some l) (h0 : l.fin ≠ 0) (hm : mates c l.fin = true) {p : List UInt8} {ts : List Ty} (hr : Row (ptype k) p ts) (h1 : ts.length ≠ 0) (h2 : ¬ (l.shape = 2 ∧ 1 < ts.length)) :
    One (ptype (k + 1)) (c :: (p ++ [l.fin])) (.mk l ts) :=
  ⟨fun any => by
      have e := row_parts l (fin_plain hm) hr ((p ++ l.fin :: any).length + 1) [] any (by have := hr.len; simp; omega) (by simpa using h1) (by simpa using h2)
      rw [List.cons_append, List.append_assoc, List.singleton_append, ptype, h]
      simp only
      rw [if_neg h0, e]
      rfl,
    Bal.brackets hm hr.bal,
    fun any => by
      have e := closes_brackets hm hr.bal any
      rw [List.cons_append, List.append_assoc, List.singleton_append, firstL, (mates_open hm).1, if_pos rfl, e]
      simp only
      rw [List.take_succ_cons, List.take_append, List.take_of_length_le (by omega), show p.length + 1 - p.length = 1 by omega]
      rfl,
    ⟨c, _, rfl, .inr (mates_open hm).1⟩⟩

theorem ptype_one : ∀ (k : Nat) (s : List UInt8) (t : Ty) (rest : List UInt8), ptype k s = some (t, rest) → ∃ p, s = p ++ rest ∧ One (ptype k) p t
  | 0, s, t, rest, h => by simp [ptype] at h
  | k + 1, [], t, rest, h => by simp [ptype] at h
  | k + 1, c :: r, t, rest, h => by
    unfold ptype at h
    split at h
    · cases h
    · rename_i l hl
      obtain ⟨hs, hcase⟩ := find_leaf hl
      split at h
      · rename_i h0
        simp only [Option.some.injEq, Prod.mk.injEq] at h
        obtain ⟨rfl, rfl⟩ := h
        rcases hcase with ⟨_, hlf, _⟩ | ⟨_, h0', _⟩
        · exact ⟨[c], rfl, one_leaf hl h0 hlf⟩
        · exact absurd h0 h0'
      · rename_i h0
        split at h
        · cases h
        · rename_i ps rest' hp
          simp only [Option.some.injEq, Prod.mk.injEq] at h
          obtain ⟨rfl, rfl⟩ := h
          obtain ⟨p, ts, rfl, hr, e, h1, h2⟩ := parts_row (fun s t rest h => ptype_one k s t rest h) l _ _ _ _ _ hp
          rw [List.nil_append] at e
          subst e
          rcases hcase with ⟨h0', _⟩ | ⟨hm, _, _⟩
          · exact absurd h0' h0
          · exact ⟨c :: (p ++ [l.fin]), by simp, one_row hl h0 hm hr h1 h2⟩

theorem one_of {k : Nat} {s : List UInt8} {t : Ty} (h : ptype k s = some (t, [])) : One (ptype k) s t := by
  obtain ⟨p, e, ho⟩ := ptype_one k s t [] h
  rw [List.append_nil] at e
  exact e ▸ ho

theorem row_count {f : List UInt8 → Option (Ty × List UInt8)} {g : List UInt8 → Bool} (hg : ∀ q t, One f q t → g q = true) {p : List UInt8} {ts : List Ty} (h : Row f p ts) : ∀ n m, ts.length + 1 ≤ n → rowL g n p m = some (m + ts.length) := by
  induction h with
  | nil =>
    intro n m hn
    obtain ⟨n, rfl⟩ : ∃ j, n = j + 1 := ⟨n - 1, by simp at hn; omega⟩
    simp [rowL]
  | cons h hq ih =>
    rename_i p q t ts
    intro n m hn
    obtain ⟨n, rfl⟩ : ∃ j, n = j + 1 := ⟨n - 1, by simp at hn; omega⟩
    obtain ⟨c, r, e, hc⟩ := h.head
    have h1 := h.first q
    have h2 := hg p t h
    have h3 := ih n (m + 1) (by simp at hn; omega)
    rw [e, List.cons_append] at h1
    rw [e] at h2
    rw [e, List.cons_append, rowL, h1, if_pos h2, ← List.cons_append, List.drop_left, h3]
    simp only [List.length_cons, Option.some.injEq]
    omega

theorem isTy_of : ∀ (k : Nat) (s : List UInt8) (t : Ty), ptype k s = some (t, []) → isTy k s = true
  | 0, s, t, h => by simp [ptype] at h
  | k + 1, [], t, h => by simp [ptype] at h
  | k + 1, c :: r, t, h => by
    unfold ptype at h
    split at h
    · cases h
    · rename_i l hl
      obtain ⟨hs, hcase⟩ := find_leaf hl
      split at h
      · rename_i h0
        simp only [Option.some.injEq, Prod.mk.injEq] at h
        obtain ⟨_, rfl⟩ := h
        rcases hcase with ⟨_, hlf, _⟩ | ⟨_, h0', _⟩
        · exact hlf
        · exact absurd h0 h0'
      · rename_i h0
        split at h
        · cases h
        · rename_i ps rest' hp
          simp only [Option.some.injEq, Prod.mk.injEq] at h
          obtain ⟨_, rfl⟩ := h
          obtain ⟨p, ts, rfl, hr, e, h1, h2⟩ := parts_row (fun s t rest h => ptype_one k s t rest h) l _ _ _ _ _ hp
          rw [List.nil_append] at e
          subst e
          rcases hcase with ⟨h0', _⟩ | ⟨hm, _, hsh⟩
          · exact absurd h0' h0
          · have hne : p ≠ [] := fun e => by
              have := hr.len
              rw [e] at this
              exact h1 (by simpa using this)
            obtain ⟨d, q, rfl⟩ : ∃ d q, p = d :: q := by
              cases p with
              | nil => exact absurd rfl hne
              | cons d q => exact ⟨d, q, rfl⟩
            have hcl := closes_brackets hm hr.bal []
            have hrow := row_count (g := isTy k) (fun q t ho => isTy_of k q t (by have := ho.reads []; rwa [List.append_nil] at this)) hr ((q ++ [l.fin]).length + 2) 0 (by have := hr.len; simp only [List.length_cons, List.length_append, List.length_nil] at this ⊢; omega)
            rw [List.cons_append] at hcl ⊢
            rw [isTy, if_pos ⟨by rw [hcl]; simp, by
              have : (d :: (q ++ [l.fin])).getLast? = some l.fin := by rw [← List.cons_append, List.getLast?_append]; rfl
              rw [this]
              exact hm⟩]
            have htk : (d :: (q ++ [l.fin])).take (q ++ [l.fin]).length = d :: q := by
              rw [List.length_append, List.length_singleton, List.take_succ_cons, List.take_left]
            rw [htk, hrow]
            simp only [Nat.zero_add, Bool.or_eq_true, beq_iff_eq, Bool.and_eq_true, decide_eq_true_iff]
            rcases hsh with ⟨h3, rfl⟩ | ⟨h3, rfl⟩
            · exact .inl (by have : ¬ 1 < ps.length := fun h => h2 ⟨h3, h⟩; omega)
            · rcases Nat.lt_or_ge 1 ps.length with h | h
              · exact .inr ⟨h, rfl⟩
              · exact .inl (by omega)

theorem row_of {k : Nat} (ih : ∀ q, isTy k q = true → ∃ t, ptype k q = some (t, [])) : ∀ (n : Nat) (s : List UInt8) (m m' : Nat), rowL (isTy k) n s m = some m' → ∃ ts, Row (ptype k) s ts ∧ m' = m + ts.length
  | 0, s, m, m', h => by simp [rowL] at h
  | n + 1, [], m, m', h => by
    simp only [rowL, Option.some.injEq] at h
    exact ⟨[], .nil, by simp [h]⟩
  | n + 1, c :: r, m, m', h => by
    unfold rowL at h
    split at h
    · rename_i hf
      obtain ⟨t, ht⟩ := ih _ hf
      have ho := one_of ht
      obtain ⟨ts, hr, e⟩ := row_of ih n _ _ _ h
      have hsplit : firstL (c :: r) ++ (c :: r).drop (firstL (c :: r)).length = c :: r := by
        have hpre : firstL (c :: r) = (c :: r).take (firstL (c :: r)).length := by
          rw [firstL]
          cases opens c with
          | false => rfl
          | true =>
            rw [if_pos rfl]
            cases closesFrom 0 (c :: r) with
            | none => exact (List.take_length).symm
            | some i =>
              simp only
              rw [List.length_take, ← List.take_eq_take_min]
        conv => lhs; lhs; rw [hpre]
        exact List.take_append_drop _ _
      refine ⟨t :: ts, ?_, by rw [e]; simp; omega⟩
      have := Row.cons ho hr
      rwa [hsplit] at this
    · cases h

theorem of_isTy : ∀ (k : Nat) (s : List UInt8), isTy k s = true → ∃ t, ptype k s = some (t, [])
  | 0, s, h => by simp [isTy] at h
  | k + 1, [], h => by simp [isTy] at h
  | k + 1, [c], h => by
    have hl : isLeaf c = true := h
    obtain ⟨l, hf⟩ := find_some (.inl hl)
    obtain ⟨_, hc⟩ := find_leaf hf
    rcases hc with ⟨h0, _⟩ | ⟨hm, _⟩
    · exact ⟨_, by rw [ptype, hf]; simp only; rw [if_pos h0]⟩
    · have := (mates_open hm).1
      rw [(leaf_open hl).1] at this
      cases this
  | k + 1, c :: d :: r, h => by
    unfold isTy at h
    split at h
    · rename_i hc
      obtain ⟨_, hm⟩ := hc
      split at h
      · cases h
      · rename_i m hrow
        obtain ⟨ts, hr, e⟩ := row_of (fun q hq => of_isTy k q hq) _ _ _ _ hrow
        rw [Nat.zero_add] at e
        subst e
        have hlast : (d :: r).getLast?.getD 0 = (d :: r).getLast (by simp) := by rw [List.getLast?_eq_some_getLast (by simp)]; rfl
        rw [hlast] at hm
        have hs : d :: r = (d :: r).take r.length ++ [(d :: r).getLast (by simp)] := by
          conv => lhs; rw [← List.dropLast_concat_getLast (by simp : (d :: r) ≠ [])]
          rw [List.dropLast_eq_take]
          rfl
        generalize (d :: r).getLast (by simp) = z at hm hs
        generalize (d :: r).take r.length = p at hr hs
        rw [hs]
        obtain ⟨l, hf⟩ := find_some (.inr (mates_open hm).1)
        obtain ⟨_, hcase⟩ := find_leaf hf
        rcases hcase with ⟨_, hl, _⟩ | ⟨hm', h0, hsh⟩
        · have := (leaf_open hl).1
          rw [(mates_open hm).1] at this
          cases this
        · have hz : z = l.fin := by
            unfold mates at hm hm'
            simp only [Bool.or_eq_true, Bool.and_eq_true, beq_iff_eq] at hm hm'
            rcases hm with ⟨rfl, rfl⟩ | ⟨rfl, rfl⟩
            · rcases hm' with ⟨_, e⟩ | ⟨e, _⟩
              · exact e.symm
              · exact absurd e (by decide)
            · rcases hm' with ⟨e, _⟩ | ⟨_, e⟩
              · exact absurd e (by decide)
              · exact e.symm
          subst hz
          simp only [Bool.or_eq_true, beq_iff_eq, Bool.and_eq_true, decide_eq_true_iff] at h
          have ho := one_row hf h0 hm hr (by omega) (fun e => by
            rcases h with h | ⟨_, rfl⟩
            · omega
            · rcases hsh with ⟨_, e'⟩ | ⟨e', _⟩
              · exact absurd e' (by decide)
              · omega)
          have := ho.reads []
          rw [List.append_nil] at this
          exact ⟨_, this⟩
    · cases h

/-- A text that is one type, taken apart. -/
theorem one_inv {k : Nat} {s : List UInt8} {t : Ty} (h : ptype (k + 1) s = some (t, [])) :
    (∃ c l, s = [c] ∧ find c = some l ∧ l.fin = 0 ∧ isLeaf c = true ∧ t = .mk l []) ∨
    (∃ c l p ts, s = c :: (p ++ [l.fin]) ∧ find c = some l ∧ mates c l.fin = true ∧ Row (ptype k) p ts ∧ t = .mk l ts ∧ ts.length ≠ 0 ∧ ¬ (l.shape = 2 ∧ 1 < ts.length) ∧ (l.shape = 2 ∧ c = 91 ∨ l.shape = 3 ∧ c = 40)) := by
  cases s with
  | nil => simp [ptype] at h
  | cons c r =>
    unfold ptype at h
    split at h
    · cases h
    · rename_i l hl
      obtain ⟨hs, hcase⟩ := find_leaf hl
      split at h
      · rename_i h0
        simp only [Option.some.injEq, Prod.mk.injEq] at h
        obtain ⟨rfl, rfl⟩ := h
        rcases hcase with ⟨_, hlf, _⟩ | ⟨_, h0', _⟩
        · exact .inl ⟨c, l, rfl, hl, h0, hlf, rfl⟩
        · exact absurd h0 h0'
      · rename_i h0
        split at h
        · cases h
        · rename_i ps rest' hp
          simp only [Option.some.injEq, Prod.mk.injEq] at h
          obtain ⟨rfl, rfl⟩ := h
          obtain ⟨p, ts, rfl, hr, e, h1, h2⟩ := parts_row (fun s t rest h => ptype_one k s t rest h) l _ _ _ _ _ hp
          rw [List.nil_append] at e
          subst e
          rcases hcase with ⟨h0', _⟩ | ⟨hm, _, hsh⟩
          · exact absurd h0' h0
          · exact .inr ⟨c, l, p, ps, rfl, hl, hm, hr, rfl, h1, h2, hsh⟩

theorem Row.one {f : List UInt8 → Option (Ty × List UInt8)} {p : List UInt8} {t : Ty} {ts : List Ty} (h : Row f p (t :: ts)) : ∃ q r, p = q ++ r ∧ One f q t ∧ Row f r ts := by
  cases h with
  | cons h hq => exact ⟨_, _, rfl, h, hq⟩

theorem Row.empty {f : List UInt8 → Option (Ty × List UInt8)} {ts : List Ty} (h : Row f [] ts) : ts = [] := by
  have := h.len
  exact List.length_eq_zero_iff.1 (by simpa using this)

theorem Row.pos {f : List UInt8 → Option (Ty × List UInt8)} {p : List UInt8} {t : Ty} {ts : List Ty} (h : Row f p (t :: ts)) : p ≠ [] := fun e => by
  rw [e] at h
  have := h.empty
  cases this

/-- The document's answer and the parser agree on what is a schema. -/
theorem schema_iff (s : List UInt8) : (isTy 9 s = true ∧ s.length ≤ 64) ↔ (parse s).isSome = true := by
  unfold parse
  constructor
  · rintro ⟨h, hl⟩
    obtain ⟨t, ht⟩ := of_isTy 9 s h
    rw [if_neg (by omega), ht]
    rfl
  · intro h
    split at h
    · cases h
    · split at h
      · rename_i t ht
        exact ⟨isTy_of 9 s t ht, by omega⟩
      · cases h
end Orch
