/- Plain mathematics of values: schemas, their types, the bytes of values; that what is read is laid down again as the same bytes. -/
namespace Orch

structure Lt where
  sign : UInt8
  shape : Nat
  size : Nat
  least : Int
  most : Int
  text : Bool
  fin : UInt8

instance : Inhabited Lt := ⟨⟨0, 0, 0, 0, 0, false, 0⟩⟩

def letters : List Lt :=
  [⟨63, 0, 1, 0, 1, false, 0⟩, ⟨52, 0, 4, -2147483648, 2147483647, false, 0⟩, ⟨56, 0, 8, -9223372036854775808, 9223372036854775807, false, 0⟩,
   ⟨98, 1, 0, 0, 0, false, 0⟩, ⟨116, 1, 0, 0, 0, true, 0⟩, ⟨91, 2, 0, 0, 0, false, 93⟩, ⟨40, 3, 0, 0, 0, false, 41⟩]

def find (c : UInt8) : Option Lt := letters.find? fun l => l.sign == c

inductive Ty where
  | mk (l : Lt) (ps : List Ty)

instance : Inhabited Ty := ⟨.mk default []⟩

def Ty.l : Ty → Lt | .mk l _ => l
def Ty.ps : Ty → List Ty | .mk _ ps => ps

inductive V where
  | mk (n : Int) (s : ByteArray) (l : List V)

def V.n : V → Int | .mk n _ _ => n
def V.s : V → ByteArray | .mk _ s _ => s
def V.l : V → List V | .mk _ _ l => l

def part (t : Ty) (i : Nat) : Ty := if t.l.shape = 2 then t.ps.getD 0 default else t.ps.getD i default

/- the schema's text -/
def parts (f : List UInt8 → Option (Ty × List UInt8)) (l : Lt) : Nat → List UInt8 → List Ty → Option (List Ty × List UInt8)
  | 0, _, _ => none
  | _ + 1, [], _ => none
  | n + 1, c :: r, acc =>
    if c = l.fin then (if acc.length = 0 ∨ l.shape = 2 ∧ 1 < acc.length then none else some (acc, r))
    else match f (c :: r) with
      | none => none
      | some (t, rest) => parts f l n rest (acc ++ [t])

def ptype : Nat → List UInt8 → Option (Ty × List UInt8)
  | 0, _ => none
  | _ + 1, [] => none
  | k + 1, c :: r => match find c with
    | none => none
    | some l => if l.fin = 0 then some (.mk l [], r) else match parts (ptype k) l (r.length + 1) r [] with
      | none => none
      | some (ps, rest) => some (.mk l ps, rest)

def parse (s : List UInt8) : Option Ty :=
  if 64 < s.length then none else match ptype 9 s with
    | some (t, []) => some t
    | _ => none

/- numbers as bytes -/
def be (n : Int) : Nat → List UInt8
  | 0 => []
  | k + 1 => UInt8.ofNat ((n / 256 ^ k) % 256).toNat :: be n k

def uns (l : List UInt8) : Nat := l.foldl (fun x c => x * 256 + c.toNat) 0
def sgn (l : List UInt8) : Int := if 256 ^ l.length ≤ 2 * uns l then (uns l : Int) - 256 ^ l.length else uns l

theorem be_length (n : Int) : ∀ k, (be n k).length = k
  | 0 => rfl
  | k + 1 => by simp [be, be_length n k]

theorem uns_foldl (l : List UInt8) : ∀ x, l.foldl (fun x c => x * 256 + c.toNat) x = x * 256 ^ l.length + uns l := by
  induction l with
  | nil => intro x; simp [uns]
  | cons c r ih =>
    intro x
    simp only [List.foldl_cons, List.length_cons, uns]
    rw [ih, ih (0 * 256 + c.toNat), Nat.pow_succ, Nat.zero_mul, Nat.zero_add, Nat.add_mul, Nat.mul_assoc, Nat.mul_comm (256 ^ r.length) 256, Nat.add_assoc]

theorem uns_cons (c : UInt8) (r : List UInt8) : uns (c :: r) = c.toNat * 256 ^ r.length + uns r := by
  show List.foldl _ _ _ = _
  rw [List.foldl_cons, uns_foldl, Nat.zero_mul, Nat.zero_add]

theorem uns_lt (l : List UInt8) : uns l < 256 ^ l.length := by
  induction l with
  | nil => simp [uns]
  | cons c r ih =>
    rw [uns_cons, List.length_cons, Nat.pow_succ]
    have h : c.toNat < 256 := c.toNat_lt
    have : c.toNat * 256 ^ r.length ≤ 255 * 256 ^ r.length := Nat.mul_le_mul_right _ (by omega)
    omega

theorem be_shift (n m : Int) : ∀ k, be (n + m * 256 ^ k) k = be n k
  | 0 => rfl
  | k + 1 => by
    have hp : (256 : Int) ^ k ≠ 0 := by
      have : (0 : Int) < 256 ^ k := Int.pow_pos (by omega)
      omega
    have e : n + m * 256 ^ (k + 1) = n + (m * 256) * 256 ^ k := by rw [Int.pow_succ, Int.mul_comm (256 ^ k) 256, Int.mul_assoc]
    unfold be
    rw [e, be_shift n (m * 256) k, Int.add_mul_ediv_right _ _ hp]
    congr 3
    omega

theorem be_uns (l : List UInt8) : be (uns l) l.length = l := by
  induction l with
  | nil => rfl
  | cons c r ih =>
    have hlt := uns_lt r
    have hc : c.toNat < 256 := c.toNat_lt
    have hp : (0 : Int) < 256 ^ r.length := Int.pow_pos (by omega)
    have hlt' : ((uns r : Nat) : Int) < 256 ^ r.length := by
      have h2 := Int.ofNat_lt.2 hlt
      rw [Int.natCast_pow] at h2
      exact h2
    have e : ((uns (c :: r) : Nat) : Int) = (uns r : Int) + (c.toNat : Int) * 256 ^ r.length := by
      rw [uns_cons, Int.natCast_add, Int.natCast_mul, Int.natCast_pow, Int.add_comm]
      rfl
    rw [List.length_cons, be, e, be_shift, ih, Int.add_mul_ediv_right _ _ (by omega), Int.ediv_eq_zero_of_lt (by omega) hlt']
    have : ((0 + (c.toNat : Int)) % 256).toNat = c.toNat := by omega
    rw [this]
    simp

theorem be_sgn (l : List UInt8) : be (sgn l) l.length = l := by
  unfold sgn
  split
  · have h := be_shift (uns l) (-1) l.length
    rw [be_uns, show ((uns l : Nat) : Int) + -1 * 256 ^ l.length = (uns l : Int) - 256 ^ l.length by omega] at h
    exact h
  · exact be_uns l

section
variable (valid : ByteArray → Bool)

def fits (t : Ty) (v : V) : Bool :=
  match t.l.shape with
  | 0 => decide (t.l.least ≤ v.n) && decide (v.n ≤ t.l.most) && decide (v.s.size = 0) && decide (v.l.length = 0)
  | 1 => decide (v.n = 0) && (decide (v.s.size ≤ 200) && (!t.l.text || valid v.s)) && decide (v.l.length = 0)
  | 2 => decide (v.n = 0) && decide (v.s.size = 0) && decide (v.l.length ≤ 32)
  | _ => decide (v.n = 0) && decide (v.s.size = 0) && decide (v.l.length = t.ps.length)

def head (t : Ty) (v : V) : List UInt8 :=
  match t.l.shape with
  | 0 => be v.n t.l.size
  | 1 => be v.s.size 4 ++ v.s.data.toList
  | 2 => be v.l.length 4
  | _ => []

def putE (f : List UInt8 → Ty → V → Option (List UInt8)) (t : Ty) : List V → Nat → List UInt8 → Option (List UInt8)
  | [], _, out => some out
  | e :: r, i, out => match f out (part t i) e with
    | none => none
    | some out' => putE f t r (i + 1) out'

def put : Nat → List UInt8 → Ty → V → Option (List UInt8)
  | 0, _, _, _ => none
  | k + 1, out, t, v =>
    if fits valid t v then
      match putE (put k) t v.l 0 (out ++ head t v) with
      | none => none
      | some o => if o.length ≤ 1000 then some o else none
    else none

def count (b : List UInt8) (most : Nat) : Option (Nat × List UInt8) :=
  if b.length < 4 then none else if most < uns (b.take 4) then none else some (uns (b.take 4), b.drop 4)

def takeE (f : Ty → List UInt8 → Option (V × List UInt8)) (t : Ty) : Nat → Nat → List UInt8 → Option (List V × List UInt8)
  | 0, _, b => some ([], b)
  | m + 1, i, b => match f (part t i) b with
    | none => none
    | some (e, rest) => match takeE f t m (i + 1) rest with
      | none => none
      | some (es, r) => some (e :: es, r)

def bytesV (l : List UInt8) : V := .mk 0 ⟨l.toArray⟩ []
def listV (r : List V × List UInt8) : V × List UInt8 := (.mk 0 ByteArray.empty r.1, r.2)

def take : Nat → Ty → List UInt8 → Option (V × List UInt8)
  | 0, _, _ => none
  | k + 1, t, b =>
    match t.l.shape with
    | 0 => if b.length < t.l.size then none else
        if fits valid t (.mk (sgn (b.take t.l.size)) ByteArray.empty []) then some (.mk (sgn (b.take t.l.size)) ByteArray.empty [], b.drop t.l.size) else none
    | 1 => match count b 200 with
      | none => none
      | some (n, rest) => if rest.length < n then none else
        if fits valid t (bytesV (rest.take n)) then some (bytesV (rest.take n), rest.drop n) else none
    | 2 => match count b 32 with
      | none => none
      | some (n, rest) => (takeE (take k) t n 0 rest).map listV
    | _ => (takeE (take k) t t.ps.length 0 b).map listV

def encode (s : List UInt8) (v : V) : Except Nat (List UInt8) :=
  match parse s with
  | none => .error 1
  | some t => match put valid 9 [] t v with
    | none => .error 2
    | some b => .ok b

def decode (s : List UInt8) (b : List UInt8) : Except Nat V :=
  match parse s with
  | none => .error 1
  | some t => if 1000 < b.length then .error 3 else match take valid 9 t b with
    | some (v, []) => .ok v
    | _ => .error 3

theorem takeE_length (f : Ty → List UInt8 → Option (V × List UInt8)) (t : Ty) : ∀ m i b es r, takeE f t m i b = some (es, r) → es.length = m := by
  intro m
  induction m with
  | zero => intro i b es r h; simp [takeE] at h; simp [← h.1]
  | succ m ih =>
    intro i b es r h
    unfold takeE at h
    split at h
    · cases h
    · rename_i e rest hf
      split at h
      · cases h
      · rename_i es' r' he
        simp only [Option.some.injEq, Prod.mk.injEq] at h
        rw [← h.1, List.length_cons, ih _ _ _ _ he]

/-- What was read of elements is laid down again. -/
theorem putE_takeE (k : Nat) (t : Ty)
    (ih : ∀ t b v rest, take valid k t b = some (v, rest) → ∃ pre, b = pre ++ rest ∧ ∀ out, out.length + pre.length ≤ 1000 → put valid k out t v = some (out ++ pre)) :
    ∀ m i b es rest, takeE (take valid k) t m i b = some (es, rest) → ∃ pre, b = pre ++ rest ∧ ∀ out, out.length + pre.length ≤ 1000 → putE (put valid k) t es i out = some (out ++ pre) := by
  intro m
  induction m with
  | zero => intro i b es rest h; simp [takeE] at h; obtain ⟨rfl, rfl⟩ := h; exact ⟨[], rfl, fun out _ => by simp [putE]⟩
  | succ m ihm =>
    intro i b es rest h
    unfold takeE at h
    split at h
    · cases h
    · rename_i e r1 hf
      split at h
      · cases h
      · rename_i es' r' he
        simp only [Option.some.injEq, Prod.mk.injEq] at h
        obtain ⟨p1, hb1, hp1⟩ := ih _ _ _ _ hf
        obtain ⟨p2, hb2, hp2⟩ := ihm _ _ _ _ he
        refine ⟨p1 ++ p2, by rw [hb1, hb2, List.append_assoc, h.2], fun out hl => ?_⟩
        rw [List.length_append] at hl
        rw [← h.1, putE, hp1 out (by omega)]
        simp only
        rw [hp2 _ (by rw [List.length_append]; omega), List.append_assoc]

theorem count_some {b : List UInt8} {most n : Nat} {rest : List UInt8} (h : count b most = some (n, rest)) : n ≤ most ∧ be n 4 ++ rest = b ∧ rest.length + 4 = b.length := by
  unfold count at h
  split at h
  · cases h
  · split at h
    · cases h
    · rename_i h4 hm
      simp only [Option.some.injEq, Prod.mk.injEq] at h
      obtain ⟨rfl, rfl⟩ := h
      have hl : (b.take 4).length = 4 := by rw [List.length_take]; omega
      have := be_uns (b.take 4)
      rw [hl] at this
      exact ⟨by omega, by rw [this, List.take_append_drop], by rw [List.length_drop]; omega⟩

theorem put_take : ∀ k t b v rest, take valid k t b = some (v, rest) → ∃ pre, b = pre ++ rest ∧ ∀ out, out.length + pre.length ≤ 1000 → put valid k out t v = some (out ++ pre) := by
  intro k
  induction k with
  | zero => intro t b v rest h; simp [take] at h
  | succ k ih =>
    intro t b v rest h
    unfold take at h
    split at h
    · rename_i hsh
      split at h
      · cases h
      · split at h
        · rename_i hlen hfit
          simp only [Option.some.injEq, Prod.mk.injEq] at h
          obtain ⟨rfl, rfl⟩ := h
          refine ⟨b.take t.l.size, by rw [List.take_append_drop], fun out hl => ?_⟩
          have hl2 : (b.take t.l.size).length = t.l.size := by rw [List.length_take]; omega
          have hb := be_sgn (b.take t.l.size)
          rw [hl2] at hb hl
          unfold put
          rw [if_pos hfit]
          simp only [head, hsh, V.n, V.l, putE, hb]
          rw [if_pos (by rw [List.length_append, hl2]; exact hl)]
        · cases h
    · rename_i hsh
      split at h
      · cases h
      · rename_i n r1 hc
        split at h
        · cases h
        · split at h
          · rename_i hlen hfit
            simp only [Option.some.injEq, Prod.mk.injEq] at h
            obtain ⟨rfl, rfl⟩ := h
            obtain ⟨hn, hb, hr⟩ := count_some hc
            have hl2 : (r1.take n).length = n := by rw [List.length_take]; omega
            refine ⟨be n 4 ++ r1.take n, by rw [List.append_assoc, List.take_append_drop, hb], fun out hl => ?_⟩
            have hs : (bytesV (r1.take n)).s.size = n := by simp [bytesV, V.s, ByteArray.size, hl2]
            unfold put
            rw [if_pos hfit]
            simp only [head, hsh]
            have hd : (bytesV (r1.take n)).s.data.toList = r1.take n := by simp [bytesV, V.s]
            have hL : (bytesV (r1.take n)).l = [] := rfl
            rw [hs, hd, hL, putE]
            simp only
            rw [if_pos (by rw [List.length_append]; exact hl)]
          · cases h
    · rename_i hsh
      split at h
      · cases h
      · rename_i n r1 hc
        obtain ⟨⟨es, r⟩, he, hm⟩ := Option.map_eq_some_iff.1 h
        simp only [listV, Prod.mk.injEq] at hm
        obtain ⟨rfl, rfl⟩ := hm
        obtain ⟨hn, hb, hr⟩ := count_some hc
        obtain ⟨p, hp, hput⟩ := putE_takeE valid k t ih _ _ _ _ _ he
        have hlen := takeE_length _ _ _ _ _ _ _ he
        refine ⟨be n 4 ++ p, by rw [List.append_assoc, ← hp, hb], fun out hl => ?_⟩
        have hb4 := be_length n 4
        have hfit : fits valid t (.mk 0 ByteArray.empty es) = true := by
          simp [fits, hsh, V.n, V.s, V.l, hlen, hn]
        unfold put
        rw [if_pos hfit]
        simp only [head, hsh, V.l]
        rw [hlen, hput _ (by rw [List.length_append] at hl ⊢; omega)]
        simp only
        rw [if_pos (by simp only [List.length_append] at hl ⊢; omega), List.append_assoc]
    · rename_i h0 h1 h2
      obtain ⟨⟨es, r⟩, he, hm⟩ := Option.map_eq_some_iff.1 h
      simp only [listV, Prod.mk.injEq] at hm
      obtain ⟨rfl, rfl⟩ := hm
      obtain ⟨p, hp, hput⟩ := putE_takeE valid k t ih _ _ _ _ _ he
      have hlen := takeE_length _ _ _ _ _ _ _ he
      refine ⟨p, hp, fun out hl => ?_⟩
      have hfit : fits valid t (.mk 0 ByteArray.empty es) = true := by
        simp [fits, V.n, V.s, V.l, hlen]
      have hhead : head t (.mk 0 ByteArray.empty es) = [] := by
        simp [head]
      unfold put
      rw [if_pos hfit, hhead]
      simp only [V.l, List.append_nil]
      rw [hput _ hl]
      simp only
      rw [if_pos (by rw [List.length_append]; exact hl)]

theorem canon (s b : List UInt8) (v : V) (h : decode valid s b = .ok v) : encode valid s v = .ok b := by
  unfold decode at h
  unfold encode
  cases hp : parse s with
  | none => simp [hp] at h
  | some t =>
    rw [hp] at h
    simp only at h ⊢
    split at h
    · cases h
    · rename_i hl
      split at h
      · rename_i v' ht
        cases h
        obtain ⟨pre, hb, hput⟩ := put_take valid _ _ _ _ _ ht
        rw [List.append_nil] at hb
        subst hb
        rw [hput [] (by simp; omega)]
        rfl
      · cases h

end
end Orch
