/- put, whole. -/
import Derived.Test.YtbnoghkijgmcgaaDoorPutF
set_option linter.unusedVariables false
namespace Go.Proofs.YtbnoghkijgmcgaaDoor
open Go.RowKit

def zV : Orch.V := .mk 0 ⟨#[]⟩ []

theorem goE_putE (g : List UInt8 → Orch.Ty → Orch.V → Option (List UInt8)) (t : Orch.Ty) (vs : List Orch.V) : ∀ n i o, n + i = vs.length →
    goE (fun i ys => g ys (Orch.part t i) (vs.getD i zV)) n i o = Orch.putE g t (vs.drop i) i o := by
  intro n
  induction n with
  | zero => intro i o h; rw [List.drop_of_length_le (by omega)]; rfl
  | succ n ih =>
    intro i o h
    have hi : i < vs.length := by omega
    rw [goE, List.drop_eq_getElem_cons hi, Orch.putE, getD_lt _ _ _ hi]
    cases g o (Orch.part t i) vs[i] with
    | none => rfl
    | some o' => exact ih (i + 1) o' (by omega)

theorem put_len (valid : ByteArray → Bool) : ∀ k xs t v o, Orch.put valid k xs t v = some o → o.length ≤ 1000 := by
  intro k
  cases k with
  | zero => intro xs t v o h; simp [Orch.put] at h
  | succ k =>
    intro xs t v o h
    unfold Orch.put at h
    split at h
    · split at h
      · cases h
      · split at h
        · injection h with h; subst h; assumption
        · cases h
    · cases h

theorem VsAt.fam {w : World} {S : Nat → Prop} {vs : List Orch.V} {v : Value} (h : VsAt w S vs v) : ∃ ex : Nat → Value, ∀ i (hi : i < vs.length),
    ∃ g cap, v = .slice (some ⟨g, 0, none⟩) vs.length cap ∧ vs.length ≤ cap ∧ S g ∧ VsAt w S vs[i].l (ex i) ∧ ∀ j u, (vcell (vs[i], ex i))[j]? = some u → w.cell? ⟨g, i * 3 + j, none⟩ = some u := by
  cases h with
  | nil a c => exact ⟨fun _ => .slice none 0 0, fun i hi => by simp at hi⟩
  | row ps g cap h0 hcap hS hc hr =>
    refine ⟨fun i => (ps.getD i (zV, .slice none 0 0)).2, fun i hi => ?_⟩
    have hi' : i < ps.length := by simpa using hi
    have eg : ps.getD i (zV, .slice none 0 0) = ps[i] := getD_lt _ _ _ hi'
    simp only [eg]
    refine ⟨g, cap, by rw [List.length_map], by rw [List.length_map]; exact hcap, hS, ?_, fun j u hu => ?_⟩
    · rw [List.getElem_map]; exact hr _ (List.getElem_mem hi')
    · refine hc _ u ?_
      have hj : j < 3 := by
        have := (List.getElem?_eq_some_iff.1 hu).1
        rwa [vcell_len] at this
      rw [flat_get vcell 3 vcell_len ps i j hj, List.getElem?_eq_getElem hi', Option.bind_some]
      rw [List.getElem_map] at hu
      exact hu

def PuSaid (valid : ByteArray → Bool) (Tabs : World → Prop) (k : Nat) : Prop := ∀ (w : World), Tabs w → ∀ (base : Nat), gTop ≤ base → base ≤ w.heap.size → ∀ (t : Orch.Ty), okT k t → ∀ (psv : Value), TsAt w (fun b => b < base) t.ps psv → ∀ (v : Orch.V) (lv : Value), VsAt w (fun b => b < base) v.l lv → ∀ (ov : Value) (xs : List UInt8), xs.length ≤ 1000 + 4 * (10 - k) → w.ownsRow base 5 1 ov xs.length (bcells xs) →
  Calls Tryd.prog 32 #[ov, tval t.l psv, vval v lv] w fun e w' => puRes base w w' ov e (Orch.put valid k xs t v)

theorem grown_of_below {w w' : World} {r : Option Nat} (h : Below w.heap.size w w') : w.grownBy w' r := ⟨h.os, h.tape, h.output, h.size, fun k hk _ => h.block k hk⟩

theorem str_cells (s : ByteArray) : Lib.strCells s = bcells s.data.toList := rfl

def cutO : Option (List UInt8) → Option (List UInt8)
  | none => none
  | some o => if o.length ≤ 1000 then some o else none

theorem put_eq (valid : ByteArray → Bool) (k : Nat) (xs : List UInt8) (t : Orch.Ty) (v : Orch.V) : Orch.put valid (k + 1) xs t v = if Orch.fits valid t v then cutO (Orch.putE (Orch.put valid k) t v.l 0 (xs ++ Orch.head t v)) else none := by
  rw [Orch.put]
  split
  · cases Orch.putE (Orch.put valid k) t v.l 0 (xs ++ Orch.head t v) <;> rfl
  · rfl

/-- Behind the elements: too long or not. -/
theorem pu_end {base : Nat} {w w' : World} {ov : Value} {e : Ending} {o : Option (List UInt8)} (h : puEnd base w w' ov e o) :
    puRes base w w' ov e (cutO o) := by
  cases o with
  | none => exact h
  | some o =>
    obtain ⟨ov', rfl, ho, hout⟩ := h
    by_cases hl : o.length ≤ 1000
    · rw [cutO, if_pos hl, decide_eq_true hl]
      exact ⟨ov', rfl, ho, hout⟩
    · rw [cutO, if_neg hl, decide_eq_false hl]
      obtain ⟨a, c, rfl⟩ := own_shape ho
      exact ⟨⟨_, _, _, rfl⟩, hout.grown⟩

section
variable {valid : ByteArray → Bool} {Tabs : World → Prop}

theorem pu_succ (U : Utf valid Tabs) (k : Nat) (hk : k + 1 ≤ 9) (ih : PuSaid valid Tabs k) : PuSaid valid Tabs (k + 1) := by
  intro w hT base hb3 hbase t hok psv hts v lv hvs ov xs hxl hown
  obtain ⟨pa, pc, rfl⟩ := hts.shape
  obtain ⟨la, lc, rfl⟩ := hvs.shape
  have hF : ∀ W, Below w.heap.size w W → Calls Tryd.prog 47 #[tval t.l (.slice pa t.ps.length pc), vval v (.slice la v.l.length lc)] W fun e w' => e = .returned (.bool (Orch.fits valid t v)) ∧ Below W.heap.size W w' := fun W hb => fits_any U W (U.kept (U.size hT) hb hT) t hok pa pc v la lc
  rw [put_eq]
  cases hfit : Orch.fits valid t v with
  | false =>
    rw [hfit] at hF
    simp only [Bool.false_eq_true, if_false]
    refine (put_unfit w ov _ _ _ _ _ _ _ pa _ pc _ _ la _ lc hF).mono ?_
    rintro e w' ⟨hn, hb⟩
    exact ⟨hn, grown_of_below hb⟩
  | true =>
    rw [hfit] at hF
    simp only [if_true]
    have hlow : ∀ W, Below base w W → Tabs W := fun W h => U.kept hb3 h hT
    rcases letters_shape hok.1 with h | h | h | h
    · have hl0 : v.l = [] := by
        simp only [Orch.fits, h, Bool.and_eq_true, decide_eq_true_eq] at hfit
        exact List.length_eq_zero_iff.1 hfit.2
      have hhead : Orch.head t v = Orch.be v.n t.l.size := by simp [Orch.head, h]
      have hsz := letters_size hok.1 h
      rw [hhead, hl0, Orch.putE]
      rw [hl0] at hF
      simp only [tval, h, List.length_nil] at hF ⊢
      refine (put_0 w base ov xs (by omega) hown hbase _ _ (by omega) _ _ _ _ pa _ pc _ _ la lc hF).mono ?_
      rintro e w' ⟨ov', rfl, ho, hout⟩
      exact pu_end (o := some (xs ++ Orch.be v.n t.l.size)) ⟨ov', rfl, ho, hout⟩
    · have hfit' := hfit
      simp only [Orch.fits, h, Bool.and_eq_true, decide_eq_true_eq] at hfit'
      have hl0 : v.l = [] := List.length_eq_zero_iff.1 hfit'.2
      have hs200 : v.s.size ≤ 200 := hfit'.1.2.1
      have hhead : Orch.head t v = Orch.be v.s.size 4 ++ v.s.data.toList := by simp [Orch.head, h]
      rw [hhead, hl0, Orch.putE]
      rw [hl0] at hF
      simp only [tval, h, List.length_nil] at hF ⊢
      refine (put_1 w base ov xs (by omega) hown hbase _ _ _ _ _ _ pa _ pc _ _ hs200 la lc hF).mono ?_
      rintro e w' ⟨ov', rfl, ho, hout⟩
      have hlen : (xs ++ (Orch.be v.s.size 4 ++ v.s.data.toList)).length = (xs ++ Orch.be v.s.size 4).length + v.s.size := by
        rw [← List.append_assoc, List.length_append, ← Lib.size_eq]
      refine pu_end (o := some (xs ++ (Orch.be v.s.size 4 ++ v.s.data.toList))) ⟨ov', by rw [hlen], ?_, hout⟩
      rw [hlen, ← List.append_assoc, bcells_append]
      exact ho
    · have hfit' := hfit
      simp only [Orch.fits, h, Bool.and_eq_true, decide_eq_true_eq] at hfit'
      have hll : v.l.length ≤ 32 := hfit'.2
      have hhead : Orch.head t v = Orch.be v.l.length 4 := by simp [Orch.head, h]
      obtain ⟨ex, hex⟩ := hvs.fam
      have hg := goE_putE (Orch.put valid k) t v.l v.l.length 0 (xs ++ Orch.be v.l.length 4) (by omega)
      rw [List.drop_zero] at hg
      rw [hhead]
      have hO : (xs ++ Orch.be v.l.length 4).length = xs.length + 4 := by rw [List.length_append, Orch.be_length]
      have hpart : ∀ W, Below base w W → ∀ i, i < v.l.length → Calls Tryd.prog 48 #[tval t.l (.slice pa t.ps.length pc), .int .i64 i] W fun e w' => ∃ xa xm xc, e = .returned (tval (Orch.part t i).l (.slice xa xm xc)) ∧ TsAt W (fun b => b < base) (Orch.part t i).ps (.slice xa xm xc) ∧ Below W.heap.size W w' := fun W hb i hi =>
        (part_any W (fun b => b < base) t hok _ (hts.congr (fun _ h' => h') (fun b hb' => hb.block b hb')) (fun b hb' => Nat.lt_of_lt_of_le hb' (Nat.le_trans hbase hb.size)) i (Or.inl h)).mono (by
          rintro e w' ⟨x, rfl, hx, hb'⟩
          obtain ⟨xa, xc, rfl⟩ := hx.shape
          exact ⟨xa, _, xc, rfl, hx, hb'⟩)
      simp only [tval, h] at hF hpart ⊢
      refine (put_2 w base ov xs (by omega) hown hbase _ _ _ _ _ _ pa _ pc v.n v.s la v.l.length lc (by omega) (1000 + 4 * (10 - k)) (by omega) (by omega) (xs ++ Orch.be v.l.length 4) rfl (fun i ys => Orch.put valid k ys (Orch.part t i) (v.l.getD i zV)) _ hg
        (fun i => v.l.getD i zV) ex (fun W hb i hi => ?_) (fun i => (Orch.part t i).l) (fun i W x => TsAt W (fun b => b < base) (Orch.part t i).ps x) hpart
        (fun W0 W hb0 hbW i hi x hx ou ys hys hbs hoy => ?_) (fun i ys o ho => put_len valid _ _ _ _ _ ho) (Or.inl (by omega)) (by omega) hF).mono (fun e w' he => pu_end he)
      · obtain ⟨g, cap, hla, hlc, hgb, hxs, hcell⟩ := hex i hi
        obtain ⟨xa, xc, hxe⟩ := hxs.shape
        simp only [Value.slice.injEq] at hla
        obtain ⟨rfl, _, rfl⟩ := hla
        rw [getD_lt _ _ _ hi]
        exact ⟨g, xa, _, xc, rfl, Nat.lt_of_lt_of_le hgb (Nat.le_trans hbase hb.size), hlc, hxe, (hb.cell (p := ⟨g, i * 3, none⟩) hgb).trans (hcell 0 _ rfl), (hb.cell (p := ⟨g, i * 3 + 1, none⟩) hgb).trans (hcell 1 _ rfl), (hb.cell (p := ⟨g, i * 3 + 2, none⟩) hgb).trans (hcell 2 _ rfl)⟩
      · obtain ⟨g, cap, hla, hlc, hgb, hxs, hcell⟩ := hex i hi
        have hbw : Below base w W := hb0.trans (hbW.mono (Nat.le_trans hbase hb0.size))
        have hv' : VsAt W (fun b => b < base) (v.l.getD i zV).l (ex i) := by
          rw [getD_lt _ _ _ hi]
          exact hxs.congr (fun _ h' => h') (fun b hb' => hbw.block b hb')
        exact ih W (hlow W hbw) base hb3 hbs (Orch.part t i) (part_ok hok i (Or.inl h)) x (hx.congr (fun _ h' => h') (fun b hb' => hbW.block b (Nat.lt_of_lt_of_le hb' (Nat.le_trans hbase hb0.size)))) _ _ hv' ou ys hys hoy
    · have hfit' := hfit
      simp only [Orch.fits, h, Bool.and_eq_true, decide_eq_true_eq] at hfit'
      have hll : v.l.length = t.ps.length := hfit'.2
      have h64 := hok.2.2.1
      have hhead : Orch.head t v = [] := by simp [Orch.head, h]
      obtain ⟨ex, hex⟩ := hvs.fam
      have hg := goE_putE (Orch.put valid k) t v.l v.l.length 0 xs (by omega)
      rw [List.drop_zero] at hg
      rw [hhead, List.append_nil]
      have hpart : ∀ W, Below base w W → ∀ i, i < v.l.length → Calls Tryd.prog 48 #[tval t.l (.slice pa t.ps.length pc), .int .i64 i] W fun e w' => ∃ xa xm xc, e = .returned (tval (Orch.part t i).l (.slice xa xm xc)) ∧ TsAt W (fun b => b < base) (Orch.part t i).ps (.slice xa xm xc) ∧ Below W.heap.size W w' := fun W hb i hi =>
        (part_any W (fun b => b < base) t hok _ (hts.congr (fun _ h' => h') (fun b hb' => hb.block b hb')) (fun b hb' => Nat.lt_of_lt_of_le hb' (Nat.le_trans hbase hb.size)) i (Or.inr ⟨h, by omega⟩)).mono (by
          rintro e w' ⟨x, rfl, hx, hb'⟩
          obtain ⟨xa, xc, rfl⟩ := hx.shape
          exact ⟨xa, _, xc, rfl, hx, hb'⟩)
      simp only [tval, h] at hF hpart ⊢
      refine (put_3 w base ov xs (by omega) hown hbase _ _ _ _ _ _ pa _ pc v.n v.s la v.l.length lc (by omega) (1000 + 4 * (10 - k)) (by omega) (by omega) xs rfl (fun i ys => Orch.put valid k ys (Orch.part t i) (v.l.getD i zV)) _ hg
        (fun i => v.l.getD i zV) ex (fun W hb i hi => ?_) (fun i => (Orch.part t i).l) (fun i W x => TsAt W (fun b => b < base) (Orch.part t i).ps x) hpart
        (fun W0 W hb0 hbW i hi x hx ou ys hys hbs hoy => ?_) (fun i ys o ho => put_len valid _ _ _ _ _ ho) (Or.inl (by omega)) (by omega) hF).mono (fun e w' he => pu_end he)
      · obtain ⟨g, cap, hla, hlc, hgb, hxs, hcell⟩ := hex i hi
        obtain ⟨xa, xc, hxe⟩ := hxs.shape
        simp only [Value.slice.injEq] at hla
        obtain ⟨rfl, _, rfl⟩ := hla
        rw [getD_lt _ _ _ hi]
        exact ⟨g, xa, _, xc, rfl, Nat.lt_of_lt_of_le hgb (Nat.le_trans hbase hb.size), hlc, hxe, (hb.cell (p := ⟨g, i * 3, none⟩) hgb).trans (hcell 0 _ rfl), (hb.cell (p := ⟨g, i * 3 + 1, none⟩) hgb).trans (hcell 1 _ rfl), (hb.cell (p := ⟨g, i * 3 + 2, none⟩) hgb).trans (hcell 2 _ rfl)⟩
      · obtain ⟨g, cap, hla, hlc, hgb, hxs, hcell⟩ := hex i hi
        have hbw : Below base w W := hb0.trans (hbW.mono (Nat.le_trans hbase hb0.size))
        have hv' : VsAt W (fun b => b < base) (v.l.getD i zV).l (ex i) := by
          rw [getD_lt _ _ _ hi]
          exact hxs.congr (fun _ h' => h') (fun b hb' => hbw.block b hb')
        exact ih W (hlow W hbw) base hb3 hbs (Orch.part t i) (part_ok hok i (Or.inr ⟨h, by omega⟩)) x (hx.congr (fun _ h' => h') (fun b hb' => hbW.block b (Nat.lt_of_lt_of_le hb' (Nat.le_trans hbase hb0.size)))) _ _ hv' ou ys hys hoy

theorem pu_all (U : Utf valid Tabs) : ∀ k, k ≤ 9 → PuSaid valid Tabs k := by
  intro k
  induction k with
  | zero => intro _ w _ base _ _ t hok; exact absurd hok (by simp [okT])
  | succ k ih => intro h; exact pu_succ U k h (ih (by omega))
end
end Go.Proofs.YtbnoghkijgmcgaaDoor
