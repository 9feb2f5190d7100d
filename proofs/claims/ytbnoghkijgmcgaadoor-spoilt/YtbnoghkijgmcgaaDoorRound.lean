/- Plain mathematics of values: what is laid down is read again, with nothing left; with a byte more or less nothing is read. -/
import Derived.Test.YtbnoghkijgmcgaaDoorPlain
namespace Orch

theorem pow_pos' (k : Nat) : (0 : Int) < 256 ^ k := Int.pow_pos (by omega)

theorem uns_be (n : Int) : ∀ k, ((uns (be n k) : Nat) : Int) = n % 256 ^ k
  | 0 => by simp [be, uns, Int.emod_one]
  | k + 1 => by
    have hp := pow_pos' k
    have ih := uns_be n k
    have h0 : 0 ≤ (n / 256 ^ k) % 256 := Int.emod_nonneg _ (by omega)
    have h1 : (n / 256 ^ k) % 256 < 256 := Int.emod_lt_of_pos _ (by omega)
    have hb : (UInt8.ofNat ((n / 256 ^ k) % 256).toNat).toNat = ((n / 256 ^ k) % 256).toNat := by
      simp only [UInt8.toNat_ofNat']
      omega
    unfold be
    rw [uns_cons, be_length, hb, Int.natCast_add, ih, Int.natCast_mul, Int.natCast_pow, Int.toNat_of_nonneg h0]
    show (n / 256 ^ k) % 256 * 256 ^ k + n % 256 ^ k = _
    have e1 := Int.mul_ediv_add_emod n (256 ^ k)
    have e2 := Int.mul_ediv_add_emod (n / 256 ^ k) 256
    have r0 := Int.emod_nonneg n (show (256 : Int) ^ k ≠ 0 by omega)
    have r1 := Int.emod_lt_of_pos n hp
    generalize hq : n / 256 ^ k = q at *
    generalize hr : n % 256 ^ k = r at *
    generalize hq2 : q / 256 = q2 at *
    generalize hq3 : q % 256 = q3 at *
    have en : n = (q3 * 256 ^ k + r) + 256 ^ (k + 1) * q2 := by
      rw [← e1, ← e2, Int.pow_succ, Int.mul_add, Int.mul_comm q3, Int.mul_assoc]
      omega
    have hlt : q3 * 256 ^ k + r < 256 ^ (k + 1) := by
      have : q3 * 256 ^ k ≤ 255 * 256 ^ k := Int.mul_le_mul_of_nonneg_right (by omega) (by omega)
      rw [Int.pow_succ]
      omega
    have hge : 0 ≤ q3 * 256 ^ k + r := Int.add_nonneg (Int.mul_nonneg h0 (by omega)) r0
    rw [en, Int.add_mul_emod_self_left, Int.emod_eq_of_lt hge hlt]

theorem uns_be4 (n : Nat) (h : n ≤ 200) : uns (be n 4) = n := by
  have := uns_be n 4
  rw [Int.emod_eq_of_lt (by omega) (by omega)] at this
  omega

theorem sgn_be (n : Int) (k : Nat) (h0 : -(256 ^ k) ≤ 2 * n) (h1 : 2 * n < 256 ^ k) : sgn (be n k) = n := by
  have hp := pow_pos' k
  have hu := uns_be n k
  have hnat : ((256 ^ k : Nat) : Int) = 256 ^ k := by rw [Int.natCast_pow]; rfl
  unfold sgn
  rw [be_length]
  rcases (by omega : n < 0 ∨ 0 ≤ n) with hn | hn
  · have e : n % 256 ^ k = n + 256 ^ k := by
      rw [← Int.add_emod_right, Int.emod_eq_of_lt (by omega) (by omega)]
    rw [e] at hu
    rw [if_pos (by omega), hu]
    omega
  · rw [Int.emod_eq_of_lt hn (by omega)] at hu
    rw [if_neg (by omega), hu]

/-- A number's bounds lie within what its bytes hold. -/
def Wide (l : Lt) : Prop := l.shape = 0 → -(256 ^ l.size : Int) ≤ 2 * l.least ∧ 2 * l.most < 256 ^ l.size
def Well : Nat → Ty → Prop
  | 0, _ => True
  | k + 1, t => Wide t.l ∧ ∀ j, Well k (part t j)

theorem part_default (j : Nat) : part default j = default := by
  unfold part
  rfl
theorem well_default : ∀ k, Well k default
  | 0 => trivial
  | k + 1 => ⟨fun _ => by decide, fun j => by rw [part_default]; exact well_default k⟩

theorem wide_find {c : UInt8} {l : Lt} (h : find c = some l) : Wide l := by
  have hm : l ∈ letters := List.mem_of_find?_eq_some h
  simp only [letters, List.mem_cons, List.mem_nil_iff, or_false] at hm
  rcases hm with rfl | rfl | rfl | rfl | rfl | rfl | rfl <;> intro hs <;> first | (constructor <;> decide) | cases hs

theorem parts_all (Q : Ty → Prop) {f : List UInt8 → Option (Ty × List UInt8)} (hf : ∀ s t r, f s = some (t, r) → Q t) (l : Lt) :
    ∀ n s acc ps r, (∀ t ∈ acc, Q t) → parts f l n s acc = some (ps, r) → ∀ t ∈ ps, Q t := by
  intro n
  induction n with
  | zero => intro s acc ps r _ h; cases s <;> simp [parts] at h
  | succ n ih =>
    intro s acc ps r ha h
    cases s with
    | nil => simp [parts] at h
    | cons c s =>
      unfold parts at h
      split at h
      · split at h
        · cases h
        · simp only [Option.some.injEq, Prod.mk.injEq] at h
          rw [← h.1]; exact ha
      · split at h
        · cases h
        · rename_i t rest ht
          refine ih _ _ _ _ ?_ h
          intro t' ht'
          rcases List.mem_append.1 ht' with h1 | h1
          · exact ha _ h1
          · simp only [List.mem_singleton] at h1
            subst h1
            exact hf _ _ _ ht

theorem part_all (Q : Ty → Prop) (hd : Q default) {l : Lt} {ps : List Ty} (h : ∀ t ∈ ps, Q t) (j : Nat) : Q (part (.mk l ps) j) := by
  have g : ∀ i, Q (ps.getD i default) := fun i => by
    rw [List.getD_eq_getElem?_getD]
    cases hi : ps[i]? with
    | none => exact hd
    | some t => exact h t (List.mem_of_getElem? hi)
  unfold part
  split
  · exact g 0
  · exact g j

theorem ptype_well : ∀ k s t r, ptype k s = some (t, r) → ∀ m, Well m t := by
  intro k
  induction k with
  | zero => intro s t r h; cases s <;> simp [ptype] at h
  | succ k ih =>
    intro s t r h m
    cases s with
    | nil => simp [ptype] at h
    | cons c s =>
      unfold ptype at h
      split at h
      · cases h
      · rename_i l hl
        cases m with
        | zero => trivial
        | succ m =>
          split at h
          · simp only [Option.some.injEq, Prod.mk.injEq] at h
            rw [← h.1]
            exact ⟨wide_find hl, part_all (Well m) (well_default m) (fun _ h => by cases h)⟩
          · split at h
            · cases h
            · rename_i ps rest hps
              simp only [Option.some.injEq, Prod.mk.injEq] at h
              rw [← h.1]
              exact ⟨wide_find hl, part_all (Well m) (well_default m) (parts_all (Well m) (fun s t r h => ih s t r h m) l _ _ _ _ _ (fun _ h => by cases h) hps)⟩

theorem parse_well {s : List UInt8} {t : Ty} (h : parse s = some t) (m : Nat) : Well m t := by
  unfold parse at h
  split at h
  · cases h
  · split at h
    · rename_i t' ht
      injection h with h
      subst h
      exact ptype_well _ _ _ _ ht m
    · cases h

section
variable (valid : ByteArray → Bool)

theorem takeE_putE (k : Nat) (t : Ty) (hw : ∀ j, Well k (part t j))
    (ih : ∀ t v out o, Well k t → put valid k out t v = some o → ∃ pre, o = out ++ pre ∧ ∀ rest, take valid k t (pre ++ rest) = some (v, rest)) :
    ∀ es i out o, putE (put valid k) t es i out = some o → ∃ pre, o = out ++ pre ∧ ∀ rest, takeE (take valid k) t es.length i (pre ++ rest) = some (es, rest) := by
  intro es
  induction es with
  | nil => intro i out o h; simp only [putE, Option.some.injEq] at h; subst h; exact ⟨[], by simp, fun rest => by simp [takeE]⟩
  | cons e es ihe =>
    intro i out o h
    unfold putE at h
    split at h
    · cases h
    · rename_i o' ho
      obtain ⟨p1, rfl, h1⟩ := ih _ _ _ _ (hw i) ho
      obtain ⟨p2, rfl, h2⟩ := ihe _ _ _ h
      refine ⟨p1 ++ p2, by simp, fun rest => ?_⟩
      rw [List.length_cons, takeE, List.append_assoc, h1]
      simp only
      rw [h2]

theorem empty_of_size {s : ByteArray} (h : s.size = 0) : s = ByteArray.empty := by
  cases s with
  | mk d =>
    have : d.size = 0 := h
    have e : d = #[] := Array.size_eq_zero_iff.1 this
    subst e
    rfl

theorem count_be (n : Nat) (most : Nat) (h : n ≤ most) (hm : most ≤ 200) (rest : List UInt8) : count (be n 4 ++ rest) most = some (n, rest) := by
  have hl := be_length (n : Int) 4
  unfold count
  rw [if_neg (by simp [hl]), List.take_append_of_le_length (by omega), List.take_of_length_le (by omega), uns_be4 n (by omega), if_neg (by omega),
    List.drop_append_of_le_length (by omega), List.drop_of_length_le (by omega), List.nil_append]

theorem take_put : ∀ k t v out o, Well k t → put valid k out t v = some o → ∃ pre, o = out ++ pre ∧ ∀ rest, take valid k t (pre ++ rest) = some (v, rest) := by
  intro k
  induction k with
  | zero => intro t v out o _ h; simp [put] at h
  | succ k ih =>
    intro t v out o hw h
    unfold put at h
    split at h
    · rename_i hf
      split at h
      · cases h
      · rename_i o' ho
        split at h
        · injection h with h
          subst h
          obtain ⟨pre, rfl, hp⟩ := takeE_putE valid k t hw.2 ih _ _ _ _ ho
          refine ⟨head t v ++ pre, by simp, fun rest => ?_⟩
          obtain ⟨n, s, l⟩ := v
          unfold take
          unfold fits at hf
          split
          · rename_i hs
            rw [hs] at hf
            simp only [V.n, V.s, V.l, Bool.and_eq_true] at hf
            obtain ⟨⟨⟨h0, h1⟩, h2⟩, h3⟩ := hf
            replace h0 := of_decide_eq_true h0
            replace h1 := of_decide_eq_true h1
            replace h2 := of_decide_eq_true h2
            replace h3 := of_decide_eq_true h3
            have hs' := empty_of_size h2
            have hl : l = [] := List.length_eq_zero_iff.1 h3
            subst hs' hl
            have hpre : pre = [] := by
              have := hp []
              simp only [V.l, List.length_nil, takeE, List.append_nil, Option.some.injEq, Prod.mk.injEq] at this
              exact this.2
            subst hpre
            have hb := be_length n t.l.size
            have hhead : head t (.mk n ByteArray.empty []) = be n t.l.size := by unfold head; rw [hs]; rfl
            obtain ⟨w0, w1⟩ := hw.1 hs
            rw [hhead, List.append_nil, if_neg (by simp [hb]), List.take_append_of_le_length (by omega), List.take_of_length_le (by omega), sgn_be n _ (by omega) (by omega),
              List.drop_append_of_le_length (by omega), List.drop_of_length_le (by omega), List.nil_append, if_pos]
            unfold fits
            rw [hs]
            simp only [V.n, V.s, V.l, Bool.and_eq_true]
            exact ⟨⟨⟨decide_eq_true h0, decide_eq_true h1⟩, decide_eq_true h2⟩, decide_eq_true h3⟩
          · rename_i hs
            rw [hs] at hf
            have hf0 := hf
            simp only [V.n, V.s, V.l, Bool.and_eq_true] at hf
            obtain ⟨⟨h0, h1, _⟩, h3⟩ := hf
            replace h0 := of_decide_eq_true h0
            replace h1 := of_decide_eq_true h1
            replace h3 := of_decide_eq_true h3
            have hl : l = [] := List.length_eq_zero_iff.1 h3
            subst h0 hl
            have hpre : pre = [] := by
              have := hp []
              simp only [V.l, List.length_nil, takeE, List.append_nil, Option.some.injEq, Prod.mk.injEq] at this
              exact this.2
            subst hpre
            have hhead : head t (.mk 0 s []) = be s.size 4 ++ s.data.toList := by unfold head; rw [hs]; rfl
            have hsz : s.data.toList.length = s.size := rfl
            rw [hhead, List.append_nil, List.append_assoc, count_be _ _ h1 (Nat.le_refl _)]
            simp only
            rw [if_neg (by simp [hsz]), List.take_append_of_le_length (by omega), List.take_of_length_le (by omega), List.drop_append_of_le_length (by omega), List.drop_of_length_le (by omega), List.nil_append, if_pos]
            · rfl
            · unfold fits
              rw [hs]
              exact hf0
          · rename_i hs
            rw [hs] at hf
            simp only [V.n, V.s, V.l, Bool.and_eq_true] at hf
            obtain ⟨⟨h0, h2⟩, h3⟩ := hf
            replace h0 := of_decide_eq_true h0
            replace h2 := of_decide_eq_true h2
            replace h3 := of_decide_eq_true h3
            have hs' := empty_of_size h2
            subst h0 hs'
            have hhead : head t (.mk 0 ByteArray.empty l) = be l.length 4 := by unfold head; rw [hs]; rfl
            rw [hhead, List.append_assoc, count_be _ _ h3 (by omega)]
            simp only
            have := hp rest
            simp only [V.l] at this
            rw [this]
            rfl
          · rename_i h0' h1' h2'
            have hhead : head t (.mk n s l) = [] := by unfold head; split <;> simp_all
            split at hf
            · exact absurd (by assumption) h0'
            · exact absurd (by assumption) h1'
            · exact absurd (by assumption) h2'
            · simp only [V.n, V.s, V.l, Bool.and_eq_true] at hf
              obtain ⟨⟨h0, h2⟩, h3⟩ := hf
              replace h0 := of_decide_eq_true h0
              replace h2 := of_decide_eq_true h2
              replace h3 := of_decide_eq_true h3
              have hs' := empty_of_size h2
              subst h0 hs'
              have := hp rest
              simp only [V.l] at this
              rw [hhead, List.nil_append, ← h3, this]
              rfl
        · cases h
    · cases h

theorem put_length : ∀ k t v out o, put valid k out t v = some o → o.length ≤ 1000 := by
  intro k t v out o h
  cases k with
  | zero => simp [put] at h
  | succ k =>
    unfold put at h
    split at h
    · split at h
      · cases h
      · split at h
        · injection h with h
          subst h
          assumption
        · cases h
    · cases h

/-- What is laid down of a value is read again as that value, with nothing left; one byte less, or one more, is none. -/
theorem round (s b : List UInt8) (v : V) (h : encode valid s v = .ok b) :
    decode valid s b = .ok v ∧ (∀ a c, b = a ++ [c] → decode valid s a = .error 3) ∧ ∀ c, decode valid s (b ++ [c]) = .error 3 := by
  unfold encode at h
  split at h
  · cases h
  · rename_i t ht
    split at h
    · cases h
    · rename_i b' hb
      injection h with h
      subst h
      obtain ⟨pre, he, hp⟩ := take_put valid 9 t v [] b' (parse_well ht 9) hb
      have hl := put_length valid _ _ _ _ _ hb
      rw [List.nil_append] at he
      subst he
      have h0 := hp []
      rw [List.append_nil] at h0
      refine ⟨?_, ?_, ?_⟩
      · unfold decode
        rw [ht]
        simp only
        rw [if_neg (by omega), h0]
      · intro a c hac
        unfold decode
        rw [ht]
        simp only
        split
        · rfl
        · split
          · rename_i v' hv
            obtain ⟨p', ha, hput⟩ := put_take valid 9 t a v' [] hv
            rw [List.append_nil] at ha
            subst ha
            have h2 := hput [] (by rw [hac] at hl; simp at hl; simp; omega)
            obtain ⟨p2, he2, hp2⟩ := take_put valid 9 t v' [] _ (parse_well ht 9) h2
            simp only [List.nil_append] at he2
            subst he2
            have h3 := hp2 [c]
            rw [← hac, h0] at h3
            simp at h3
          · rfl
      · intro c
        unfold decode
        rw [ht]
        simp only
        split
        · rfl
        · rw [hp [c]]
end
end Orch
