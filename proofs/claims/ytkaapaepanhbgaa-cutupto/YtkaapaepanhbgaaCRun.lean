/- Byte by byte: how bytes are cut into bodies does not hang on the pieces. -/
import Derived.Test.YtkaapaepanhbgaaCMake
set_option linter.unusedVariables false
set_option linter.unusedSimpArgs false
namespace Go.Proofs.Ytkaapaepanhbgaa
open Go Go.Conc Go.Pair Go.RowKit

/-- Byte by byte. -/
def runB : List UInt8 → List UInt8 → List (List UInt8) × List UInt8 × Bool
  | p, [] => ([], p, false)
  | p, c :: bs => if 1000 < lenOf (p ++ [c]) then ([], [], true) else if missing (p ++ [c]) = 0 then (((p ++ [c]).drop 4) :: (runB [] bs).1, (runB [] bs).2) else runB (p ++ [c]) bs

theorem lenOf_app {p xs : List UInt8} (h : 4 ≤ p.length) : lenOf (p ++ xs) = lenOf p := by
  unfold lenOf
  rw [if_neg (by simp; omega), if_neg (by omega), List.take_append_of_le_length h]

/-- A round at once. -/
theorem runB_round : ∀ (xs ys p : List UInt8), OkP p → (xs.length : Int) ≤ missing p → xs ≠ [] →
    runB p (xs ++ ys) = if 1000 < lenOf (p ++ xs) then ([], [], true) else if missing (p ++ xs) = 0 then (((p ++ xs).drop 4) :: (runB [] ys).1, (runB [] ys).2) else runB (p ++ xs) ys
  | [], ys, p, _, _, h => absurd rfl h
  | [c], ys, p, hp, hm, _ => rfl
  | c :: d :: xs, ys, p, hp, hm, _ => by
    have hm' : ((xs.length : Int) + 2) ≤ missing p := by simpa using (by simp at hm; omega : ((xs.length : Int) + 2) ≤ missing p)
    have hml := missing_lenOf p
    have hl1 : lenOf (p ++ [c]) ≤ 1000 := by
      by_cases h4 : p.length < 4
      · rw [if_pos h4] at hml
        unfold lenOf
        rw [if_pos (by simp; omega)]
        omega
      · rw [lenOf_app (by omega)]
        exact hp.len
    have hm1 : missing (p ++ [c]) = missing p - 1 := by
      rw [missing_lenOf, hml]
      by_cases h4 : p.length < 4
      · rw [if_pos h4] at hml ⊢
        rw [if_pos (by simp; omega)]
        simp
        omega
      · rw [if_neg h4, if_neg (by simp; omega), lenOf_app (by omega)]
        simp
        omega
    have hok : OkP (p ++ [c]) := ⟨by omega, hl1⟩
    have ih := runB_round (d :: xs) ys (p ++ [c]) hok (by rw [hm1]; simp; omega) (by simp)
    rw [List.append_assoc] at ih
    show (if 1000 < lenOf (p ++ [c]) then _ else if missing (p ++ [c]) = 0 then _ else runB (p ++ [c]) (d :: xs ++ ys)) = _
    rw [if_neg (by omega), if_neg (by omega)]
    exact ih

theorem runB_next {p bs : List UInt8} (hp : OkP p) (hb : bs ≠ []) :
    runB p bs = if 1000 < lenOf (nextP p bs) then ([], [], true) else if missing (nextP p bs) = 0 then (((nextP p bs).drop 4) :: (runB [] (bs.drop (nn p bs))).1, (runB [] (bs.drop (nn p bs))).2) else runB (nextP p bs) (bs.drop (nn p bs)) := by
  have h0 := nn_pos hp hb
  have h1 := nn_le p bs
  have h := runB_round (bs.take (nn p bs)) (bs.drop (nn p bs)) p hp (by have := nn_miss (bs := bs) hp; rw [List.length_take, Nat.min_eq_left h1]; exact this) (by intro e; have := congrArg List.length e; rw [List.length_take, Nat.min_eq_left h1] at this; simp at this; omega)
  rw [List.take_append_drop] at h
  exact h

theorem Cuts.run {p bs : List UInt8} {bodies : List (List UInt8)} {q : List UInt8} {t : Bool} (h : Cuts p bs bodies q t) (hp : OkP p) : runB p bs = (bodies, q, t) := by
  induction h with
  | done p => rfl
  | long hb hl => rw [runB_next hp hb, if_pos hl]
  | body hb hl hm _ ih => rw [runB_next hp hb, if_neg (by omega), if_pos hm, ih okP_nil]
  | more hb hl hm _ ih => rw [runB_next hp hb, if_neg (by omega), if_neg hm]; exact ih (nextP_ok hp hl hm)

/-- Two pieces. -/
theorem runB_app : ∀ (a b p : List UInt8), runB p (a ++ b) = if (runB p a).2.2 then (runB p a) else ((runB p a).1 ++ (runB (runB p a).2.1 b).1, (runB (runB p a).2.1 b).2)
  | [], b, p => by simp [runB]
  | c :: a, b, p => by
    rw [List.cons_append]
    simp only [runB]
    by_cases h1 : 1000 < lenOf (p ++ [c])
    · simp [h1]
    · by_cases h2 : missing (p ++ [c]) = 0
      · simp only [if_neg h1, if_pos h2]
        rw [runB_app a b []]
        by_cases h3 : (runB [] a).2.2 = true
        · simp [h3]
        · simp [h3]
      · simp only [if_neg h1, if_neg h2]
        exact runB_app a b (p ++ [c])
theorem runB_shut : ∀ (a p : List UInt8), (runB p a).2.2 = true → (runB p a).2.1 = []
  | [], p, h => by simp [runB] at h
  | c :: a, p, h => by
    simp only [runB] at h ⊢
    by_cases h1 : 1000 < lenOf (p ++ [c])
    · simp [h1]
    · by_cases h2 : missing (p ++ [c]) = 0
      · simp only [if_neg h1, if_pos h2] at h ⊢
        exact runB_shut a [] h
      · simp only [if_neg h1, if_neg h2] at h ⊢
        exact runB_shut a _ h

/-- What Feed makes of more bytes. -/
def feedB (p : List UInt8) (tl : Bool) (bs : List UInt8) : List (List UInt8) × List UInt8 × Bool := if tl then ([], p, true) else runB p bs
theorem Feeds.run {p : List UInt8} {tl : Bool} {bs : List UInt8} {bodies : List (List UInt8)} {q : List UInt8} {t : Bool} (h : Feeds p tl bs bodies q t) (hp : OkP p) : feedB p tl bs = (bodies, q, t) := by
  unfold Feeds at h
  unfold feedB
  cases tl with
  | true => simp at h ⊢; obtain ⟨rfl, rfl, rfl⟩ := h; exact ⟨rfl, rfl, rfl⟩
  | false => simp at h ⊢; exact h.run hp

/-- Whatever the cuts: the same. -/
theorem Told.run {p : List UInt8} {tl : Bool} {rem : List UInt8} {cuts : List Int} {bodies : List (List UInt8)} {q : List UInt8} {t : Bool} (h : Told p tl rem cuts bodies q t) (hp : OkP p) (htl : tl = true → p = []) : feedB p tl rem = (bodies, q, t) := by
  induction h with
  | last hC => exact hC.run hp
  | @cut p tl rem c cuts n b1 b2 p1 q t1 t hn hnl hC _ ih =>
    have h1 := hC.run hp
    have hsh : t1 = true → p1 = [] := fun e => by
      cases tl with
      | true => simp [feedB] at h1; rw [← h1.2.1]; exact htl rfl
      | false =>
        simp [feedB] at h1
        have := runB_shut (rem.take n) p (by rw [h1]; exact e)
        rw [h1] at this
        exact this
    have h2 := ih (hC.ok hp) hsh
    cases tl with
    | true =>
      simp [feedB] at h1
      obtain ⟨rfl, rfl, rfl⟩ := h1
      simp [feedB] at h2 ⊢
      exact h2
    | false =>
      simp only [feedB, Bool.false_eq_true, if_false] at h1 ⊢
      rw [← List.take_append_drop n rem, runB_app, h1]
      cases t1 with
      | true =>
        simp [feedB] at h2 ⊢
        obtain ⟨rfl, rfl, rfl⟩ := h2
        simp
      | false =>
        simp only [feedB, Bool.false_eq_true, if_false] at h2 ⊢
        rw [h2]

theorem feeds_any (p : List UInt8) (tl : Bool) (bs : List UInt8) (hp : OkP p) : ∃ bodies q t, Feeds p tl bs bodies q t := by
  cases tl with
  | true => exact ⟨[], p, true, by simp [Feeds]⟩
  | false =>
    obtain ⟨bodies, q, t, h⟩ := cuts_any bs.length p bs (Nat.le_refl _) hp
    exact ⟨bodies, q, t, by simpa [Feeds] using h⟩
theorem pk_range (c : Int) (L : Nat) : ∃ n : Nat, (n : Int) = pk c (L + 1) ∧ n ≤ L := by
  unfold pk
  have h0 : 0 ≤ (if c < 0 then -(c + 1) else c) := by split <;> omega
  have h1 := Int.tmod_nonneg (L + 1 : Int) h0
  have h2 := Int.tmod_lt_of_pos (if c < 0 then -(c + 1) else c) (show (0 : Int) < L + 1 by omega)
  exact ⟨(Int.tmod (if c < 0 then -(c + 1) else c) (L + 1)).toNat, by omega, by omega⟩
theorem told_any : ∀ (cuts : List Int) (p : List UInt8) (tl : Bool) (rem : List UInt8), OkP p → ∃ bodies q t, Told p tl rem cuts bodies q t
  | [], p, tl, rem, hp => by
    obtain ⟨b, q, t, h⟩ := feeds_any p tl rem hp
    exact ⟨b, q, t, .last h⟩
  | c :: cuts, p, tl, rem, hp => by
    obtain ⟨n, hn, hnl⟩ := pk_range c rem.length
    obtain ⟨b1, p1, t1, h1⟩ := feeds_any p tl (rem.take n) hp
    obtain ⟨b2, q, t, h2⟩ := told_any cuts p1 t1 (rem.drop n) (h1.ok hp)
    exact ⟨b1 ++ b2, q, t, .cut hn hnl h1 h2⟩
end Go.Proofs.Ytkaapaepanhbgaa

/- Frames are read again. -/
set_option linter.unusedVariables false
set_option linter.unusedSimpArgs false
namespace Go.Proofs.Ytkaapaepanhbgaa
open Go Go.Conc Go.Pair Go.RowKit

theorem hdr_len (n : Nat) : (hdr n).length = 4 := rfl
theorem uns_hdr (n : Nat) (h : n < 4294967296) : uns (hdr n) = n := by
  simp only [uns, hdr, List.foldl_cons, List.foldl_nil, UInt8.toNat_ofNat', Nat.reducePow]
  omega
theorem lenOf_hdr (n : Nat) (h : n < 4294967296) (b : List UInt8) : lenOf (hdr n ++ b) = n := by
  unfold lenOf
  rw [if_neg (by simp [hdr]), List.take_append_of_le_length (by simp [hdr]), show (hdr n).take 4 = hdr n from rfl, uns_hdr n h]
def frameOf (b : List UInt8) : List UInt8 := hdr b.length ++ b

theorem runB_frame (b rest : List UInt8) (hb : b.length ≤ 1000) : runB [] (frameOf b ++ rest) = (b :: (runB [] rest).1, (runB [] rest).2) := by
  have hl := lenOf_hdr b.length (by omega) []
  rw [List.append_nil] at hl
  have hm : missing (hdr b.length) = b.length := by
    rw [missing_lenOf, if_neg (by simp [hdr]), hl, hdr_len]
    omega
  have hlb := lenOf_hdr b.length (by omega) b
  have hmb : missing (hdr b.length ++ b) = 0 := by
    rw [missing_lenOf, if_neg (by simp [hdr]), hlb]
    simp [hdr]
    omega
  have hd : (hdr b.length ++ b).drop 4 = b := rfl
  unfold frameOf
  rw [List.append_assoc, runB_round (hdr b.length) (b ++ rest) [] okP_nil (by rw [hdr_len]; decide) (by simp [hdr]), List.nil_append, hl, if_neg (by omega), hm]
  by_cases h0 : b = []
  · subst h0
    simp [hdr]
  · have hpos : 0 < b.length := List.length_pos_iff.2 h0
    rw [if_neg (by omega), runB_round b rest (hdr b.length) ⟨by rw [hm]; omega, by rw [hl]; exact hb⟩ (by rw [hm]; exact Int.le_refl _) h0, hlb, if_neg (by omega), if_pos hmb, hd]

theorem runB_frames : ∀ (ws : List (List UInt8)) (tail : List UInt8), (∀ b ∈ ws, b.length ≤ 1000) → runB [] ((ws.map frameOf).flatten ++ tail) = (ws ++ (runB [] tail).1, (runB [] tail).2)
  | [], tail, _ => by simp
  | b :: ws, tail, h => by
    rw [List.map_cons, List.flatten_cons, List.append_assoc, runB_frame b _ (h b (by simp)), runB_frames ws tail fun x hx => h x (by simp [hx])]
    simp

theorem runB_count : ∀ (bs p : List UInt8), (runB p bs).1.length ≤ bs.length
  | [], p => by simp [runB]
  | c :: bs, p => by
    simp only [runB]
    have h1 := runB_count bs []
    have h2 := runB_count bs (p ++ [c])
    split
    · simp
    · split
      · simp; omega
      · simp; omega
end Go.Proofs.Ytkaapaepanhbgaa
