/- Plain mathematics of the maker: a text that is read as one type, a value of it, and the bytes that it is laid down as. -/
import Derived.Test.YtbnoghkijgmcgaaDoorRound
namespace Orch

section
variable (valid : ByteArray → Bool)

/-- The text σ is read as the type T, whatever stands behind it; the value v of it is laid down as pre. -/
def Reads (k : Nat) (σ : List UInt8) (T : Ty) : Prop := ∀ rest, ptype k (σ ++ rest) = some (T, rest)
def Lays (k : Nat) (T : Ty) (v : V) (pre : List UInt8) : Prop := ∀ out, out.length + pre.length ≤ 1000 → put valid k out T v = some (out ++ pre)

/-- Some elements of one type. -/
def Vec (k : Nat) (T : Ty) (vs : List V) (pre : List UInt8) : Prop :=
  ∀ t, (∀ j, part t j = T) → ∀ i out, out.length + pre.length ≤ 1000 → putE (put valid k) t vs i out = some (out ++ pre)

/-- Some elements of a type each. -/
structure Tup (k : Nat) (σ : List UInt8) (Ts : List Ty) (vs : List V) (pre : List UInt8) : Prop where
  same : vs.length = Ts.length
  short : Ts.length ≤ σ.length
  reads : ∀ l, find l.fin = none → ∀ n acc rest, Ts.length < n → parts (ptype k) l n (σ ++ rest) acc = parts (ptype k) l (n - Ts.length) rest (acc ++ Ts)
  lays : ∀ t i, (∀ (j : Nat) T, Ts[j]? = some T → part t (i + j) = T) → ∀ out, out.length + pre.length ≤ 1000 → putE (put valid k) t vs i out = some (out ++ pre)

theorem putE_append (f : List UInt8 → Ty → V → Option (List UInt8)) (t : Ty) (v : V) : ∀ vs i out o, putE f t vs i out = some o → putE f t (vs ++ [v]) i out = f o (part t (i + vs.length)) v := by
  intro vs
  induction vs with
  | nil =>
    intro i out o h
    simp only [putE, Option.some.injEq] at h
    subst h
    simp only [List.nil_append, putE, List.length_nil, Nat.add_zero]
    cases f out (part t i) v <;> rfl
  | cons e vs ih =>
    intro i out o h
    unfold putE at h
    rw [List.cons_append]
    unfold putE
    split at h
    · cases h
    · rename_i o' ho
      show putE f t (vs ++ [v]) (i + 1) o' = _
      rw [ih _ _ _ h, List.length_cons, show i + 1 + vs.length = i + (vs.length + 1) by omega]

theorem Reads.start {k : Nat} {σ : List UInt8} {T : Ty} (h : Reads k σ T) : ∃ c r, σ = c :: r ∧ find c ≠ none := by
  have h0 := h []
  rw [List.append_nil] at h0
  cases k with
  | zero => cases σ <;> simp [ptype] at h0
  | succ k =>
    cases σ with
    | nil => simp [ptype] at h0
    | cons c r =>
      refine ⟨c, r, rfl, fun hn => ?_⟩
      unfold ptype at h0
      rw [hn] at h0
      cases h0

theorem parts_step {k : Nat} {σ : List UInt8} {T : Ty} (h : Reads k σ T) (l : Lt) (hl : find l.fin = none) (n : Nat) (acc : List Ty) (rest : List UInt8) :
    parts (ptype k) l (n + 1) (σ ++ rest) acc = parts (ptype k) l n rest (acc ++ [T]) := by
  obtain ⟨c, r, rfl, hc⟩ := h.start
  have h1 := h rest
  rw [List.cons_append] at h1 ⊢
  rw [parts]
  rw [if_neg (fun e => hc (by rw [e]; exact hl)), h1]

variable {valid}
theorem Vec.nil (k : Nat) (T : Ty) : Vec valid k T [] [] := fun t ht i out h => by simp [putE]
theorem Vec.snoc {k : Nat} {T : Ty} {vs : List V} {pre : List UInt8} {v : V} {p : List UInt8} (h : Vec valid k T vs pre) (hv : Lays valid k T v p) : Vec valid k T (vs ++ [v]) (pre ++ p) := fun t ht i out ho => by
  rw [List.length_append] at ho
  rw [putE_append _ _ _ _ _ _ _ (h t ht i out (by omega)), ht, hv _ (by simp; omega), List.append_assoc]

theorem Tup.nil (k : Nat) : Tup valid k [] [] [] [] :=
  ⟨rfl, Nat.le_refl _, fun l _ n acc rest _ => by simp, fun t i _ out _ => by simp [putE]⟩
theorem Tup.snoc {k : Nat} {σ : List UInt8} {Ts : List Ty} {vs : List V} {pre : List UInt8} {σ' : List UInt8} {T : Ty} {v : V} {p : List UInt8} (h : Tup valid k σ Ts vs pre) (hr : Reads k σ' T) (hv : Lays valid k T v p) :
    Tup valid k (σ ++ σ') (Ts ++ [T]) (vs ++ [v]) (pre ++ p) where
  same := by simp [h.same]
  short := by
    obtain ⟨c, r, rfl, _⟩ := hr.start
    have := h.short
    simp
    omega
  reads := fun l hl n acc rest hn => by
    rw [List.length_append, List.length_singleton] at hn
    rw [List.append_assoc, h.reads l hl n acc (σ' ++ rest) (by omega), show n - Ts.length = (n - Ts.length - 1) + 1 by omega, parts_step hr l hl, List.append_assoc, List.length_append, List.length_singleton,
      show n - Ts.length - 1 = n - (Ts.length + 1) by omega]
  lays := fun t i ht out ho => by
    rw [List.length_append] at ho
    have h1 := h.lays t i (fun j T' hj => ht j T' (by rw [List.getElem?_append_left (by exact (List.getElem?_eq_some_iff.1 hj).1)]; exact hj)) out (by omega)
    rw [putE_append _ _ _ _ _ _ _ h1, h.same, ht Ts.length T (by simp), hv _ (by simp; omega), List.append_assoc]

def l91 : Lt := ⟨91, 2, 0, 0, 0, false, 93⟩
def l40 : Lt := ⟨40, 3, 0, 0, 0, false, 41⟩

theorem fin_append (σ : List UInt8) (c : UInt8) (rest : List UInt8) : σ ++ [c] ++ rest = σ ++ c :: rest := by simp

theorem reads_vec {k : Nat} {σ : List UInt8} {T : Ty} (h : Reads k σ T) : Reads (k + 1) (91 :: (σ ++ [93])) (.mk l91 [T]) := fun rest => by
  obtain ⟨c, r, hσ, _⟩ := h.start
  have hl : 1 ≤ σ.length := by rw [hσ]; simp
  rw [List.cons_append, fin_append, ptype]
  rw [show find 91 = some l91 by rfl]
  simp only
  rw [if_neg (by decide)]
  rw [show (σ ++ 93 :: rest).length + 1 = ((σ.length + rest.length) + 1) + 1 by simp; omega]
  rw [parts_step h l91 (by rfl), parts]
  simp [l91]

theorem reads_tup {k : Nat} {σ : List UInt8} {Ts : List Ty} {vs : List V} {pre : List UInt8} (h : Tup valid k σ Ts vs pre) (h1 : 1 ≤ Ts.length) : Reads (k + 1) (40 :: (σ ++ [41])) (.mk l40 Ts) := fun rest => by
  have hs := h.short
  rw [List.cons_append, fin_append, ptype]
  rw [show find 40 = some l40 by rfl]
  simp only
  rw [if_neg (by decide)]
  have hlen : (σ ++ 41 :: rest).length = σ.length + rest.length + 1 := by simp; omega
  rw [h.reads l40 (by rfl) _ _ _ (by omega), hlen, show σ.length + rest.length + 1 + 1 - Ts.length = (σ.length + rest.length + 1 - Ts.length) + 1 by omega, List.nil_append, parts]
  rw [if_pos (by rfl), if_neg (fun h => h.elim (fun h => by omega) (fun h => by cases h.1))]

theorem lays_of {k : Nat} {T : Ty} {v : V} {pre : List UInt8} (hf : fits valid T v = true) (h : ∀ out, out.length + (head T v).length + pre.length ≤ 1000 → putE (put valid k) T v.l 0 (out ++ head T v) = some (out ++ head T v ++ pre)) :
    Lays valid (k + 1) T v (head T v ++ pre) := fun out ho => by
  rw [List.length_append] at ho
  unfold put
  rw [if_pos hf, h out (by omega)]
  simp only
  rw [if_pos (by simp; omega), List.append_assoc]

theorem lays_vec {k : Nat} {T : Ty} {vs : List V} {pre : List UInt8} (h : Vec valid k T vs pre) (hn : vs.length ≤ 32) : Lays valid (k + 1) (.mk l91 [T]) (.mk 0 ByteArray.empty vs) (be vs.length 4 ++ pre) := by
  refine lays_of (T := .mk l91 [T]) (v := .mk 0 ByteArray.empty vs) (pre := pre) ?_ fun out ho => ?_
  · show (decide ((0 : Int) = 0) && decide (ByteArray.empty.size = 0) && decide (vs.length ≤ 32)) = true
    simp [hn]
  · exact h _ (fun j => rfl) 0 _ (by rw [List.length_append]; exact ho)

theorem lays_tup {k : Nat} {σ : List UInt8} {Ts : List Ty} {vs : List V} {pre : List UInt8} (h : Tup valid k σ Ts vs pre) : Lays valid (k + 1) (.mk l40 Ts) (.mk 0 ByteArray.empty vs) pre := by
  have := lays_of (valid := valid) (k := k) (T := .mk l40 Ts) (v := .mk 0 ByteArray.empty vs) (pre := pre) ?_ fun out ho => ?_
  · exact this
  · show (decide ((0 : Int) = 0) && decide (ByteArray.empty.size = 0) && decide (vs.length = Ts.length)) = true
    simp [h.same]
  · refine h.lays _ 0 (fun j T hj => ?_) _ (by rw [List.length_append]; exact ho)
    show Ts.getD (0 + j) default = T
    rw [Nat.zero_add, List.getD_eq_getElem?_getD, hj]
    rfl

theorem reads_leaf {k : Nat} {c : UInt8} {l : Lt} (h : find c = some l) (hf : l.fin = 0) : Reads (k + 1) [c] (.mk l []) := fun rest => by
  rw [List.cons_append, List.nil_append, ptype, h]
  simp only
  rw [if_pos hf]

theorem lays_num {k : Nat} {l : Lt} {n : Int} (hs : l.shape = 0) (h0 : l.least ≤ n) (h1 : n ≤ l.most) : Lays valid (k + 1) (.mk l []) (.mk n ByteArray.empty []) (be n l.size) := by
  have e : head (.mk l []) (.mk n ByteArray.empty []) = be n l.size := by unfold head; rw [show (Ty.mk l []).l.shape = 0 from hs]; rfl
  have := lays_of (valid := valid) (k := k) (T := .mk l []) (v := .mk n ByteArray.empty []) (pre := []) ?_ fun out ho => ?_
  · rw [e, List.append_nil] at this; exact this
  · unfold fits
    rw [show (Ty.mk l []).l.shape = 0 from hs]
    show (decide (l.least ≤ n) && decide (n ≤ l.most) && decide (ByteArray.empty.size = 0) && decide (([] : List V).length = 0)) = true
    simp [h0, h1]
  · simp [V.l, putE]

theorem lays_bytes {k : Nat} {l : Lt} {s : ByteArray} (hs : l.shape = 1) (h0 : s.size ≤ 200) (h1 : l.text = true → valid s = true) : Lays valid (k + 1) (.mk l []) (.mk 0 s []) (be s.size 4 ++ s.data.toList) := by
  have e : head (.mk l []) (.mk 0 s []) = be s.size 4 ++ s.data.toList := by unfold head; rw [show (Ty.mk l []).l.shape = 1 from hs]; rfl
  have := lays_of (valid := valid) (k := k) (T := .mk l []) (v := .mk 0 s []) (pre := []) ?_ fun out ho => ?_
  · rw [e, List.append_nil] at this; exact this
  · unfold fits
    rw [show (Ty.mk l []).l.shape = 1 from hs]
    show (decide ((0 : Int) = 0) && (decide (s.size ≤ 200) && (!l.text || valid s)) && decide (([] : List V).length = 0)) = true
    cases ht : l.text <;> simp [h0, ht, h1]
  · simp [V.l, putE]

theorem encode_of {σ : List UInt8} {T : Ty} {v : V} {pre : List UInt8} (hr : Reads 9 σ T) (hl : Lays valid 9 T v pre) (h1 : σ.length ≤ 64) (h2 : pre.length ≤ 1000) : encode valid σ v = .ok pre := by
  have h0 := hr []
  rw [List.append_nil] at h0
  have hp : parse σ = some T := by
    unfold parse
    rw [if_neg (by omega), h0]
  unfold encode
  rw [hp]
  simp only
  rw [hl [] (by simp; omega)]
  rfl
end
end Orch
