/- Plain mathematics of values: schemas, their types, the bytes of values; that what is read is laid down again as the same bytes. -/
namespace Orch

structure Lt where
  sign : UInt8
  shape : Nat
  size : Nat
  least : Int
  most : Int
  text : Bool
  fin : UInt8

instance : Inhabited Lt := ⟨⟨0, 0, 0, 0, 0, false, 0⟩⟩

def letters : List Lt :=
  [⟨63, 0, 1, 0, 1, false, 0⟩, ⟨52, 0, 4, -2147483648, 2147483647, false, 0⟩, ⟨56, 0, 8, -9223372036854775808, 9223372036854775807, false, 0⟩,
   ⟨98, 1, 0, 0, 0, false, 0⟩, ⟨116, 1, 0, 0, 0, true, 0⟩, ⟨91, 2, 0, 0, 0, false, 93⟩, ⟨40, 3, 0, 0, 0, false, 41⟩]

def find (c : UInt8) : Option Lt := letters.find? fun l => l.sign == c

inductive Ty where
  | mk (l : Lt) (ps : List Ty)

instance : Inhabited Ty := ⟨.mk default []⟩

def Ty.l : Ty → Lt | .mk l _ => l
def Ty.ps : Ty → List Ty | .mk _ ps => ps

inductive V where
  | mk (n : Int) (s : ByteArray) (l : List V)

def V.n : V → Int | .mk n _ _ => n
def V.s : V → ByteArray | .mk _ s _ => s
def V.l : V → List V | .mk _ _ l => l

def part (t : Ty) (i : Nat) : Ty := if t.l.shape = 2 then t.ps.getD 0 default else t.ps.getD i default

/- the schema's text -/
def parts (f : List UInt8 → Option (Ty × List UInt8)) (l : Lt) : Nat → List UInt8 → List Ty → Option (List Ty × List UInt8)
  | 0, _, _ => none
  | _ + 1, [], _ => none
  | n + 1, c :: r, acc =>
    if c = l.fin then (if acc.length = 0 ∨ l.shape = 2 ∧ 1 < acc.length then none else some (acc, r))
    else match f (c :: r) with
      | none => none
      | some (t, rest) => parts f l n rest (acc ++ [t])

def ptype : Nat → List UInt8 → Option (Ty × List UInt8)
  | 0, _ => none
  | _ + 1, [] => none
  | k + 1, c :: r => match find c with
    | none => none
    | some l => if l.fin = 0 then some (.mk l [], r) else match parts (ptype k) l (r.length + 1) r [] with
      | none => none
      | some (ps, rest) => some (.mk l ps, rest)

def parse (s : List UInt8) : Option Ty :=
  if 64 < s.length then none else match ptype 9 s with
    | some (t, []) => some t
    | _ => none

/- numbers as bytes -/
def be (n : Int) : Nat → List UInt8
  | 0 => []
  | k + 1 => UInt8.ofNat ((n / 256 ^ k) % 256).toNat :: be n k

def uns (l : List UInt8) : Nat := l.foldl (fun x c => x * 256 + c.toNat) 0
def sgn (l : List UInt8) : Int := if 256 ^ l.length ≤ 2 * uns l then (uns l : Int) - 256 ^ l.length else uns l

theorem be_length (n : Int) : ∀ k, (be n k).length = k
  | 0 => rfl
  | k + 1 => by simp [be, be_length n k]

theorem uns_foldl (l : List UInt8) : ∀ x, l.foldl (fun x c => x * 256 + c.toNat) x = x * 256 ^ l.length + uns l := by
  induction l with
  | nil => intro x; simp [uns]
  | cons c r ih =>
    intro x
    simp only [List.foldl_cons, List.length_cons, uns]
    rw [ih, ih (0 * 256 + c.toNat), Nat.pow_succ, Nat.zero_mul, Nat.zero_add, Nat.add_mul, Nat.mul_assoc, Nat.mul_comm (256 ^ r.length) 256, Nat.add_assoc]

theorem uns_cons (c : UInt8) (r : List UInt8) : uns (c :: r) = c.toNat * 256 ^ r.length + uns r := by
  show List.foldl _ _ _ = _
  rw [List.foldl_cons, uns_foldl, Nat.zero_mul, Nat.zero_add]

theorem uns_lt (l : List UInt8) : uns l < 256 ^ l.length := by
  induction l with
  | nil => simp [uns]
  | cons c r ih =>
    rw [uns_cons, List.length_cons, Nat.pow_succ]
    have h : c.toNat < 256 := c.toNat_lt
    have : c.toNat * 256 ^ r.length ≤ 255 * 256 ^ r.length := Nat.mul_le_mul_right _ (by omega)
    omega

theorem be_shift (n m : Int) : ∀ k, be (n + m * 256 ^ k) k = be n k
  | 0 => rfl
  | k + 1 => by
    have hp : (256 : Int) ^ k ≠ 0 := by
      have : (0 : Int) < 256 ^ k := Int.pow_pos (by omega)
      omega
    have e : n + m * 256 ^ (k + 1) = n + (m * 256) * 256 ^ k := by rw [Int.pow_succ, Int.mul_comm (256 ^ k) 256, Int.mul_assoc]
    unfold be
    rw [e, be_shift n (m * 256) k, Int.add_mul_ediv_right _ _ hp]
    congr 3
    omega

theorem be_uns (l : List UInt8) : be (uns l) l.length = l := by
  induction l with
  | nil => rfl
  | cons c r ih =>
    have hlt := uns_lt r
    have hc : c.toNat < 256 := c.toNat_lt
    have hp : (0 : Int) < 256 ^ r.length := Int.pow_pos (by omega)
    have hlt' : ((uns r : Nat) : Int) < 256 ^ r.length := by
      have h2 := Int.ofNat_lt.2 hlt
      rw [Int.natCast_pow] at h2
      exact h2
    have e : ((uns (c :: r) : Nat) : Int) = (uns r : Int) + (c.toNat : Int) * 256 ^ r.length := by
      rw [uns_cons, Int.natCast_add, Int.natCast_mul, Int.natCast_pow, Int.add_comm]
      rfl
    rw [List.length_cons, be, e, be_shift, ih, Int.add_mul_ediv_right _ _ (by omega), Int.ediv_eq_zero_of_lt (by omega) hlt']
    have : ((0 + (c.toNat : Int)) % 256).toNat = c.toNat := by omega
    rw [this]
    simp

theorem be_sgn (l : List UInt8) : be (sgn l) l.length = l := by
  unfold sgn
  split
  · have h := be_shift (uns l) (-1) l.length
    rw [be_uns, show ((uns l : Nat) : Int) + -1 * 256 ^ l.length = (uns l : Int) - 256 ^ l.length by omega] at h
    exact h
  · exact be_uns l

section
variable (valid : ByteArray → Bool)

def fits (t : Ty) (v : V) : Bool :=
  match t.l.shape with
  | 0 => decide (t.l.least ≤ v.n) && decide (v.n ≤ t.l.most) && decide (v.s.size = 0) && decide (v.l.length = 0)
  | 1 => decide (v.n = 0) && (decide (v.s.size ≤ 200) && (!t.l.text || valid v.s)) && decide (v.l.length = 0)
  | 2 => decide (v.n = 0) && decide (v.s.size = 0) && decide (v.l.length ≤ 32)
  | _ => decide (v.n = 0) && decide (v.s.size = 0) && decide (v.l.length = t.ps.length)

def head (t : Ty) (v : V) : List UInt8 :=
  match t.l.shape with
  | 0 => be v.n t.l.size
  | 1 => be v.s.size 4 ++ v.s.data.toList
  | 2 => be v.l.length 4
  | _ => []

def putE (f : List UInt8 → Ty → V → Option (List UInt8)) (t : Ty) : List V → Nat → List UInt8 → Option (List UInt8)
  | [], _, out => some out
  | e :: r, i, out => match f out (part t i) e with
    | none => none
    | some out' => putE f t r (i + 1) out'

def put : Nat → List UInt8 → Ty → V → Option (List UInt8)
  | 0, _, _, _ => none
  | k + 1, out, t, v =>
    if fits valid t v then
      match putE (put k) t v.l 0 (out ++ head t v) with
      | none => none
      | some o => if o.length ≤ 1000 then some o else none
    else none

def count (b : List UInt8) (most : Nat) : Option (Nat × List UInt8) :=
  if b.length < 4 then none else if most < uns (b.take 4) then none else some (uns (b.take 4), b.drop 4)

def takeE (f : Ty → List UInt8 → Option (V × List UInt8)) (t : Ty) : Nat → Nat → List UInt8 → Option (List V × List UInt8)
  | 0, _, b => some ([], b)
  | m + 1, i, b => match f (part t i) b with
    | none => none
    | some (e, rest) => match takeE f t m (i + 1) rest with
      | none => none
      | some (es, r) => some (e :: es, r)

def bytesV (l : List UInt8) : V := .mk 0 ⟨l.toArray⟩ []
def listV (r : List V × List UInt8) : V × List UInt8 := (.mk 0 ByteArray.empty r.1, r.2)

def take : Nat → Ty → List UInt8 → Option (V × List UInt8)
  | 0, _, _ => none
  | k + 1, t, b =>
    match t.l.shape with
    | 0 => if b.length < t.l.size then none else
        if fits valid t (.mk (sgn (b.take t.l.size)) ByteArray.empty []) then some (.mk (sgn (b.take t.l.size)) ByteArray.empty [], b.drop t.l.size) else none
    | 1 => match count b 200 with
      | none => none
      | some (n, rest) => if rest.length < n then none else
        if fits valid t (bytesV (rest.take n)) then some (bytesV (rest.take n), rest.drop n) else none
    | 2 => match count b 32 with
      | none => none
      | some (n, rest) => (takeE (take k) t n 0 rest).map listV
    | _ => (takeE (take k) t t.ps.length 0 b).map listV

def encode (s : List UInt8) (v : V) : Except Nat (List UInt8) :=
  match parse s with
  | none => .error 1
  | some t => match put valid 9 [] t v with
    | none => .error 2
    | some b => .ok b

def decode (s : List UInt8) (b : List UInt8) : Except Nat V :=
  match parse s with
  | none => .error 1
  | some t => if 1000 < b.length then .error 3 else match take valid 9 t b with
    | some (v, []) => .ok v
    | _ => .error 3

theorem takeE_length (f : Ty → List UInt8 → Option (V × List UInt8)) (t : Ty) : ∀ m i b es r, takeE f t m i b = some (es, r) → es.length = m := by
  intro m
  induction m with
  | zero => intro i b es r h; simp [takeE] at h; simp [← h.1]
  | succ m ih =>
    intro i b es r h
    unfold takeE at h
    split at h
    · cases h
    · rename_i e rest hf
      split at h
      · cases h
      · rename_i es' r' he
        simp only [Option.some.injEq, Prod.mk.injEq] at h
        rw [← h.1, List.length_cons, ih _ _ _ _ he]

/-- What was read of elements is laid down again. -/
theorem putE_takeE (k : Nat) (t : Ty)
    (ih : ∀ t b v rest, take valid k t b = some (v, rest) → ∃ pre, b = pre ++ rest ∧ ∀ out, out.length + pre.length ≤ 1000 → put valid k out t v = some (out ++ pre)) :
    ∀ m i b es rest, takeE (take valid k) t m i b = some (es, rest) → ∃ pre, b = pre ++ rest ∧ ∀ out, out.length + pre.length ≤ 1000 → putE (put valid k) t es i out = some (out ++ pre) := by
  intro m
  induction m with
  | zero => intro i b es rest h; simp [takeE] at h; obtain ⟨rfl, rfl⟩ := h; exact ⟨[], rfl, fun out _ => by simp [putE]⟩
  | succ m ihm =>
    intro i b es rest h
    unfold takeE at h
    split at h
    · cases h
    · rename_i e r1 hf
      split at h
      · cases h
      · rename_i es' r' he
        simp only [Option.some.injEq, Prod.mk.injEq] at h
        obtain ⟨p1, hb1, hp1⟩ := ih _ _ _ _ hf
        obtain ⟨p2, hb2, hp2⟩ := ihm _ _ _ _ he
        refine ⟨p1 ++ p2, by rw [hb1, hb2, List.append_assoc, h.2], fun out hl => ?_⟩
        rw [List.length_append] at hl
        rw [← h.1, putE, hp1 out (by omega)]
        simp only
        rw [hp2 _ (by rw [List.length_append]; omega), List.append_assoc]

theorem count_some {b : List UInt8} {most n : Nat} {rest : List UInt8} (h : count b most = some (n, rest)) : n ≤ most ∧ be n 4 ++ rest = b ∧ rest.length + 4 = b.length := by
  unfold count at h
  split at h
  · cases h
  · split at h
    · cases h
    · rename_i h4 hm
      simp only [Option.some.injEq, Prod.mk.injEq] at h
      obtain ⟨rfl, rfl⟩ := h
      have hl : (b.take 4).length = 4 := by rw [List.length_take]; omega
      have := be_uns (b.take 4)
      rw [hl] at this
      exact ⟨by omega, by rw [this, List.take_append_drop], by rw [List.length_drop]; omega⟩

theorem put_take : ∀ k t b v rest, take valid k t b = some (v, rest) → ∃ pre, b = pre ++ rest ∧ ∀ out, out.length + pre.length ≤ 1000 → put valid k out t v = some (out ++ pre) := by
  intro k
  induction k with
  | zero => intro t b v rest h; simp [take] at h
  | succ k ih =>
    intro t b v rest h
    unfold take at h
    split at h
    · rename_i hsh
      split at h
      · cases h
      · split at h
        · rename_i hlen hfit
          simp only [Option.some.injEq, Prod.mk.injEq] at h
          obtain ⟨rfl, rfl⟩ := h
          refine ⟨b.take t.l.size, by rw [List.take_append_drop], fun out hl => ?_⟩
          have hl2 : (b.take t.l.size).length = t.l.size := by rw [List.length_take]; omega
          have hb := be_sgn (b.take t.l.size)
          rw [hl2] at hb hl
          unfold put
          rw [if_pos hfit]
          simp only [head, hsh, V.n, V.l, putE, hb]
          rw [if_pos (by rw [List.length_append, hl2]; exact hl)]
        · cases h
    · rename_i hsh
      split at h
      · cases h
      · rename_i n r1 hc
        split at h
        · cases h
        · split at h
          · rename_i hlen hfit
            simp only [Option.some.injEq, Prod.mk.injEq] at h
            obtain ⟨rfl, rfl⟩ := h
            obtain ⟨hn, hb, hr⟩ := count_some hc
            have hl2 : (r1.take n).length = n := by rw [List.length_take]; omega
            refine ⟨be n 4 ++ r1.take n, by rw [List.append_assoc, List.take_append_drop, hb], fun out hl => ?_⟩
            have hs : (bytesV (r1.take n)).s.size = n := by simp [bytesV, V.s, ByteArray.size, hl2]
            unfold put
            rw [if_pos hfit]
            simp only [head, hsh]
            have hd : (bytesV (r1.take n)).s.data.toList = r1.take n := by simp [bytesV, V.s]
            have hL : (bytesV (r1.take n)).l = [] := rfl
            rw [hs, hd, hL, putE]
            simp only
            rw [if_pos (by rw [List.length_append]; exact hl)]
          · cases h
    · rename_i hsh
      split at h
      · cases h
      · rename_i n r1 hc
        obtain ⟨⟨es, r⟩, he, hm⟩ := Option.map_eq_some_iff.1 h
        simp only [listV, Prod.mk.injEq] at hm
        obtain ⟨rfl, rfl⟩ := hm
        obtain ⟨hn, hb, hr⟩ := count_some hc
        obtain ⟨p, hp, hput⟩ := putE_takeE valid k t ih _ _ _ _ _ he
        have hlen := takeE_length _ _ _ _ _ _ _ he
        refine ⟨be n 4 ++ p, by rw [List.append_assoc, ← hp, hb], fun out hl => ?_⟩
        have hb4 := be_length n 4
        have hfit : fits valid t (.mk 0 ByteArray.empty es) = true := by
          simp [fits, hsh, V.n, V.s, V.l, hlen, hn]
        unfold put
        rw [if_pos hfit]
        simp only [head, hsh, V.l]
        rw [hlen, hput _ (by rw [List.length_append] at hl ⊢; omega)]
        simp only
        rw [if_pos (by simp only [List.length_append] at hl ⊢; omega), List.append_assoc]
    · rename_i h0 h1 h2
      obtain ⟨⟨es, r⟩, he, hm⟩ := Option.map_eq_some_iff.1 h
      simp only [listV, Prod.mk.injEq] at hm
      obtain ⟨rfl, rfl⟩ := hm
      obtain ⟨p, hp, hput⟩ := putE_takeE valid k t ih _ _ _ _ _ he
      have hlen := takeE_length _ _ _ _ _ _ _ he
      refine ⟨p, hp, fun out hl => ?_⟩
      have hfit : fits valid t (.mk 0 ByteArray.empty es) = true := by
        simp [fits, V.n, V.s, V.l, hlen]
      have hhead : head t (.mk 0 ByteArray.empty es) = [] := by
        simp [head]
      unfold put
      rw [if_pos hfit, hhead]
      simp only [V.l, List.append_nil]
      rw [hput _ hl]
      simp only
      rw [if_pos (by rw [List.length_append]; exact hl)]

end
end Orch

/- Plain mathematics of values: what is laid down is read again, with nothing left; with a byte more or less nothing is read. -/
namespace Orch

theorem pow_pos' (k : Nat) : (0 : Int) < 256 ^ k := Int.pow_pos (by omega)

theorem uns_be (n : Int) : ∀ k, ((uns (be n k) : Nat) : Int) = n % 256 ^ k
  | 0 => by simp [be, uns, Int.emod_one]
  | k + 1 => by
    have hp := pow_pos' k
    have ih := uns_be n k
    have h0 : 0 ≤ (n / 256 ^ k) % 256 := Int.emod_nonneg _ (by omega)
    have h1 : (n / 256 ^ k) % 256 < 256 := Int.emod_lt_of_pos _ (by omega)
    have hb : (UInt8.ofNat ((n / 256 ^ k) % 256).toNat).toNat = ((n / 256 ^ k) % 256).toNat := by
      simp only [UInt8.toNat_ofNat']
      omega
    unfold be
    rw [uns_cons, be_length, hb, Int.natCast_add, ih, Int.natCast_mul, Int.natCast_pow, Int.toNat_of_nonneg h0]
    show (n / 256 ^ k) % 256 * 256 ^ k + n % 256 ^ k = _
    have e1 := Int.mul_ediv_add_emod n (256 ^ k)
    have e2 := Int.mul_ediv_add_emod (n / 256 ^ k) 256
    have r0 := Int.emod_nonneg n (show (256 : Int) ^ k ≠ 0 by omega)
    have r1 := Int.emod_lt_of_pos n hp
    generalize hq : n / 256 ^ k = q at *
    generalize hr : n % 256 ^ k = r at *
    generalize hq2 : q / 256 = q2 at *
    generalize hq3 : q % 256 = q3 at *
    have en : n = (q3 * 256 ^ k + r) + 256 ^ (k + 1) * q2 := by
      rw [← e1, ← e2, Int.pow_succ, Int.mul_add, Int.mul_comm q3, Int.mul_assoc]
      omega
    have hlt : q3 * 256 ^ k + r < 256 ^ (k + 1) := by
      have : q3 * 256 ^ k ≤ 255 * 256 ^ k := Int.mul_le_mul_of_nonneg_right (by omega) (by omega)
      rw [Int.pow_succ]
      omega
    have hge : 0 ≤ q3 * 256 ^ k + r := Int.add_nonneg (Int.mul_nonneg h0 (by omega)) r0
    rw [en, Int.add_mul_emod_self_left, Int.emod_eq_of_lt hge hlt]

theorem uns_be4 (n : Nat) (h : n ≤ 200) : uns (be n 4) = n := by
  have := uns_be n 4
  rw [Int.emod_eq_of_lt (by omega) (by omega)] at this
  omega

theorem sgn_be (n : Int) (k : Nat) (h0 : -(256 ^ k) ≤ 2 * n) (h1 : 2 * n < 256 ^ k) : sgn (be n k) = n := by
  have hp := pow_pos' k
  have hu := uns_be n k
  have hnat : ((256 ^ k : Nat) : Int) = 256 ^ k := by rw [Int.natCast_pow]; rfl
  unfold sgn
  rw [be_length]
  rcases (by omega : n < 0 ∨ 0 ≤ n) with hn | hn
  · have e : n % 256 ^ k = n + 256 ^ k := by
      rw [← Int.add_emod_right, Int.emod_eq_of_lt (by omega) (by omega)]
    rw [e] at hu
    rw [if_pos (by omega), hu]
    omega
  · rw [Int.emod_eq_of_lt hn (by omega)] at hu
    rw [if_neg (by omega), hu]

/-- A number's bounds lie within what its bytes hold. -/
def Wide (l : Lt) : Prop := l.shape = 0 → -(256 ^ l.size : Int) ≤ 2 * l.least ∧ 2 * l.most < 256 ^ l.size

def Well : Nat → Ty → Prop
  | 0, _ => True
  | k + 1, t => Wide t.l ∧ ∀ j, Well k (part t j)

theorem part_default (j : Nat) : part default j = default := by
  unfold part
  rfl

theorem well_default : ∀ k, Well k default
  | 0 => trivial
  | k + 1 => ⟨fun _ => by decide, fun j => by rw [part_default]; exact well_default k⟩

theorem wide_find {c : UInt8} {l : Lt} (h : find c = some l) : Wide l := by
  have hm : l ∈ letters := List.mem_of_find?_eq_some h
  simp only [letters, List.mem_cons, List.mem_nil_iff, or_false] at hm
  rcases hm with rfl | rfl | rfl | rfl | rfl | rfl | rfl <;> intro hs <;> first | (constructor <;> decide) | cases hs

theorem parts_all (Q : Ty → Prop) {f : List UInt8 → Option (Ty × List UInt8)} (hf : ∀ s t r, f s = some (t, r) → Q t) (l : Lt) :
    ∀ n s acc ps r, (∀ t ∈ acc, Q t) → parts f l n s acc = some (ps, r) → ∀ t ∈ ps, Q t := by
  intro n
  induction n with
  | zero => intro s acc ps r _ h; cases s <;> simp [parts] at h
  | succ n ih =>
    intro s acc ps r ha h
    cases s with
    | nil => simp [parts] at h
    | cons c s =>
      unfold parts at h
      split at h
      · split at h
        · cases h
        · simp only [Option.some.injEq, Prod.mk.injEq] at h
          rw [← h.1]; exact ha
      · split at h
        · cases h
        · rename_i t rest ht
          refine ih _ _ _ _ ?_ h
          intro t' ht'
          rcases List.mem_append.1 ht' with h1 | h1
          · exact ha _ h1
          · simp only [List.mem_singleton] at h1
            subst h1
            exact hf _ _ _ ht

theorem part_all (Q : Ty → Prop) (hd : Q default) {l : Lt} {ps : List Ty} (h : ∀ t ∈ ps, Q t) (j : Nat) : Q (part (.mk l ps) j) := by
  have g : ∀ i, Q (ps.getD i default) := fun i => by
    rw [List.getD_eq_getElem?_getD]
    cases hi : ps[i]? with
    | none => exact hd
    | some t => exact h t (List.mem_of_getElem? hi)
  unfold part
  split
  · exact g 0
  · exact g j

theorem ptype_well : ∀ k s t r, ptype k s = some (t, r) → ∀ m, Well m t := by
  intro k
  induction k with
  | zero => intro s t r h; cases s <;> simp [ptype] at h
  | succ k ih =>
    intro s t r h m
    cases s with
    | nil => simp [ptype] at h
    | cons c s =>
      unfold ptype at h
      split at h
      · cases h
      · rename_i l hl
        cases m with
        | zero => trivial
        | succ m =>
          split at h
          · simp only [Option.some.injEq, Prod.mk.injEq] at h
            rw [← h.1]
            exact ⟨wide_find hl, part_all (Well m) (well_default m) (fun _ h => by cases h)⟩
          · split at h
            · cases h
            · rename_i ps rest hps
              simp only [Option.some.injEq, Prod.mk.injEq] at h
              rw [← h.1]
              exact ⟨wide_find hl, part_all (Well m) (well_default m) (parts_all (Well m) (fun s t r h => ih s t r h m) l _ _ _ _ _ (fun _ h => by cases h) hps)⟩

theorem parse_well {s : List UInt8} {t : Ty} (h : parse s = some t) (m : Nat) : Well m t := by
  unfold parse at h
  split at h
  · cases h
  · split at h
    · rename_i t' ht
      injection h with h
      subst h
      exact ptype_well _ _ _ _ ht m
    · cases h

section
variable (valid : ByteArray → Bool)

theorem takeE_putE (k : Nat) (t : Ty) (hw : ∀ j, Well k (part t j))
    (ih : ∀ t v out o, Well k t → put valid k out t v = some o → ∃ pre, o = out ++ pre ∧ ∀ rest, take valid k t (pre ++ rest) = some (v, rest)) :
    ∀ es i out o, putE (put valid k) t es i out = some o → ∃ pre, o = out ++ pre ∧ ∀ rest, takeE (take valid k) t es.length i (pre ++ rest) = some (es, rest) := by
  intro es
  induction es with
  | nil => intro i out o h; simp only [putE, Option.some.injEq] at h; subst h; exact ⟨[], by simp, fun rest => by simp [takeE]⟩
  | cons e es ihe =>
    intro i out o h
    unfold putE at h
    split at h
    · cases h
    · rename_i o' ho
      obtain ⟨p1, rfl, h1⟩ := ih _ _ _ _ (hw i) ho
      obtain ⟨p2, rfl, h2⟩ := ihe _ _ _ h
      refine ⟨p1 ++ p2, by simp, fun rest => ?_⟩
      rw [List.length_cons, takeE, List.append_assoc, h1]
      simp only
      rw [h2]

theorem empty_of_size {s : ByteArray} (h : s.size = 0) : s = ByteArray.empty := by
  cases s with
  | mk d =>
    have : d.size = 0 := h
    have e : d = #[] := Array.size_eq_zero_iff.1 this
    subst e
    rfl

theorem count_be (n : Nat) (most : Nat) (h : n ≤ most) (hm : most ≤ 200) (rest : List UInt8) : count (be n 4 ++ rest) most = some (n, rest) := by
  have hl := be_length (n : Int) 4
  unfold count
  rw [if_neg (by simp [hl]), List.take_append_of_le_length (by omega), List.take_of_length_le (by omega), uns_be4 n (by omega), if_neg (by omega),
    List.drop_append_of_le_length (by omega), List.drop_of_length_le (by omega), List.nil_append]

theorem take_put : ∀ k t v out o, Well k t → put valid k out t v = some o → ∃ pre, o = out ++ pre ∧ ∀ rest, take valid k t (pre ++ rest) = some (v, rest) := by
  intro k
  induction k with
  | zero => intro t v out o _ h; simp [put] at h
  | succ k ih =>
    intro t v out o hw h
    unfold put at h
    split at h
    · rename_i hf
      split at h
      · cases h
      · rename_i o' ho
        split at h
        · injection h with h
          subst h
          obtain ⟨pre, rfl, hp⟩ := takeE_putE valid k t hw.2 ih _ _ _ _ ho
          refine ⟨head t v ++ pre, by simp, fun rest => ?_⟩
          obtain ⟨n, s, l⟩ := v
          unfold take
          unfold fits at hf
          split
          · rename_i hs
            rw [hs] at hf
            simp only [V.n, V.s, V.l, Bool.and_eq_true] at hf
            obtain ⟨⟨⟨h0, h1⟩, h2⟩, h3⟩ := hf
            replace h0 := of_decide_eq_true h0
            replace h1 := of_decide_eq_true h1
            replace h2 := of_decide_eq_true h2
            replace h3 := of_decide_eq_true h3
            have hs' := empty_of_size h2
            have hl : l = [] := List.length_eq_zero_iff.1 h3
            subst hs' hl
            have hpre : pre = [] := by
              have := hp []
              simp only [V.l, List.length_nil, takeE, List.append_nil, Option.some.injEq, Prod.mk.injEq] at this
              exact this.2
            subst hpre
            have hb := be_length n t.l.size
            have hhead : head t (.mk n ByteArray.empty []) = be n t.l.size := by unfold head; rw [hs]; rfl
            obtain ⟨w0, w1⟩ := hw.1 hs
            rw [hhead, List.append_nil, if_neg (by simp [hb]), List.take_append_of_le_length (by omega), List.take_of_length_le (by omega), sgn_be n _ (by omega) (by omega),
              List.drop_append_of_le_length (by omega), List.drop_of_length_le (by omega), List.nil_append, if_pos]
            unfold fits
            rw [hs]
            simp only [V.n, V.s, V.l, Bool.and_eq_true]
            exact ⟨⟨⟨decide_eq_true h0, decide_eq_true h1⟩, decide_eq_true h2⟩, decide_eq_true h3⟩
          · rename_i hs
            rw [hs] at hf
            have hf0 := hf
            simp only [V.n, V.s, V.l, Bool.and_eq_true] at hf
            obtain ⟨⟨h0, h1, _⟩, h3⟩ := hf
            replace h0 := of_decide_eq_true h0
            replace h1 := of_decide_eq_true h1
            replace h3 := of_decide_eq_true h3
            have hl : l = [] := List.length_eq_zero_iff.1 h3
            subst h0 hl
            have hpre : pre = [] := by
              have := hp []
              simp only [V.l, List.length_nil, takeE, List.append_nil, Option.some.injEq, Prod.mk.injEq] at this
              exact this.2
            subst hpre
            have hhead : head t (.mk 0 s []) = be s.size 4 ++ s.data.toList := by unfold head; rw [hs]; rfl
            have hsz : s.data.toList.length = s.size := rfl
            rw [hhead, List.append_nil, List.append_assoc, count_be _ _ h1 (Nat.le_refl _)]
            simp only
            rw [if_neg (by simp [hsz]), List.take_append_of_le_length (by omega), List.take_of_length_le (by omega), List.drop_append_of_le_length (by omega), List.drop_of_length_le (by omega), List.nil_append, if_pos]
            · rfl
            · unfold fits
              rw [hs]
              exact hf0
          · rename_i hs
            rw [hs] at hf
            simp only [V.n, V.s, V.l, Bool.and_eq_true] at hf
            obtain ⟨⟨h0, h2⟩, h3⟩ := hf
            replace h0 := of_decide_eq_true h0
            replace h2 := of_decide_eq_true h2
            replace h3 := of_decide_eq_true h3
            have hs' := empty_of_size h2
            subst h0 hs'
            have hhead : head t (.mk 0 ByteArray.empty l) = be l.length 4 := by unfold head; rw [hs]; rfl
            rw [hhead, List.append_assoc, count_be _ _ h3 (by omega)]
            simp only
            have := hp rest
            simp only [V.l] at this
            rw [this]
            rfl
          · rename_i h0' h1' h2'
            have hhead : head t (.mk n s l) = [] := by unfold head; split <;> simp_all
            split at hf
            · exact absurd (by assumption) h0'
            · exact absurd (by assumption) h1'
            · exact absurd (by assumption) h2'
            · simp only [V.n, V.s, V.l, Bool.and_eq_true] at hf
              obtain ⟨⟨h0, h2⟩, h3⟩ := hf
              replace h0 := of_decide_eq_true h0
              replace h2 := of_decide_eq_true h2
              replace h3 := of_decide_eq_true h3
              have hs' := empty_of_size h2
              subst h0 hs'
              have := hp rest
              simp only [V.l] at this
              rw [hhead, List.nil_append, ← h3, this]
              rfl
        · cases h
    · cases h

theorem put_length : ∀ k t v out o, put valid k out t v = some o → o.length ≤ 1000 := by
  intro k t v out o h
  cases k with
  | zero => simp [put] at h
  | succ k =>
    unfold put at h
    split at h
    · split at h
      · cases h
      · split at h
        · injection h with h
          subst h
          assumption
        · cases h
    · cases h

/-- What is laid down of a value is read again as that value, with nothing left; one byte less, or one more, is none. -/
theorem round (s b : List UInt8) (v : V) (h : encode valid s v = .ok b) :
    decode valid s b = .ok v ∧ (∀ a c, b = a ++ [c] → decode valid s a = .error 3) ∧ ∀ c, decode valid s (b ++ [c]) = .error 3 := by
  unfold encode at h
  split at h
  · cases h
  · rename_i t ht
    split at h
    · cases h
    · rename_i b' hb
      injection h with h
      subst h
      obtain ⟨pre, he, hp⟩ := take_put valid 9 t v [] b' (parse_well ht 9) hb
      have hl := put_length valid _ _ _ _ _ hb
      rw [List.nil_append] at he
      subst he
      have h0 := hp []
      rw [List.append_nil] at h0
      refine ⟨?_, ?_, ?_⟩
      · unfold decode
        rw [ht]
        simp only
        rw [if_neg (by omega), h0]
      · intro a c hac
        unfold decode
        rw [ht]
        simp only
        split
        · rfl
        · split
          · rename_i v' hv
            obtain ⟨p', ha, hput⟩ := put_take valid 9 t a v' [] hv
            rw [List.append_nil] at ha
            subst ha
            have h2 := hput [] (by rw [hac] at hl; simp at hl; simp; omega)
            obtain ⟨p2, he2, hp2⟩ := take_put valid 9 t v' [] _ (parse_well ht 9) h2
            simp only [List.nil_append] at he2
            subst he2
            have h3 := hp2 [c]
            rw [← hac, h0] at h3
            simp at h3
          · rfl
      · intro c
        unfold decode
        rw [ht]
        simp only
        split
        · rfl
        · rw [hp [c]]

end
end Orch

/- Plain mathematics of the maker: a text that is read as one type, a value of it, and the bytes that it is laid down as. -/
namespace Orch

section
variable (valid : ByteArray → Bool)

variable {valid}
end
end Orch

/- Plain mathematics of files: the sum, nodes, trees, files as bytes. -/
namespace Orch

/-- A node of a tree. -/
structure Node where
  path : ByteArray
  data : ByteArray
  note : ByteArray
  made : Int
  changed : Int
  version : Int

instance : Inhabited Node := ⟨⟨ByteArray.empty, ByteArray.empty, ByteArray.empty, 0, 0, 0⟩⟩

end Orch
