/- The document's answer: the value that bytes may stand for, of any type. -/
import Derived.Test.YtlghcldiboecoaaGreatDoorDVec
import Derived.Test.YtlghcldiboecoaaGreatDoorDRec
set_option linter.unusedVariables false
namespace Go.Proofs.YtlghcldiboecoaaGreatDoor
open Go.RowKit

theorem take_num {k : Nat} {lt : Orch.Lt} {l : List UInt8} {v0 : Orch.V} {rest : List UInt8} (hsh : lt.shape = 0) (h : Orch.take validB (k + 1) (.mk lt []) l = some (v0, rest)) :
    lt.size ≤ l.length ∧ v0 = .mk (Orch.sgn (l.take lt.size)) ⟨#[]⟩ [] ∧ rest = l.drop lt.size ∧ lt.least ≤ Orch.sgn (l.take lt.size) ∧ Orch.sgn (l.take lt.size) ≤ lt.most := by
  rw [Orch.take] at h
  simp only [Orch.Ty.l, hsh] at h
  have h' : (if l.length < lt.size then none else if Orch.fits validB (.mk lt []) (.mk (Orch.sgn (l.take lt.size)) ByteArray.empty []) = true then some (Orch.V.mk (Orch.sgn (l.take lt.size)) ByteArray.empty [], l.drop lt.size) else none) = some (v0, rest) := h
  clear h
  rename _ => h
  by_cases h1 : l.length < lt.size
  · rw [if_pos h1] at h; cases h
  · rw [if_neg h1] at h
    split at h
    · rename_i hf
      simp only [Option.some.injEq, Prod.mk.injEq] at h
      simp only [Orch.fits, Orch.Ty.l, Orch.V.n, hsh, Bool.and_eq_true, decide_eq_true_eq] at hf
      exact ⟨by omega, h.1.symm, h.2.symm, of_decide_eq_true hf.1.1.1, of_decide_eq_true hf.1.1.2⟩
    · cases h

theorem take_txt {k : Nat} {lt : Orch.Lt} {l : List UInt8} {v0 : Orch.V} {rest : List UInt8} (hsh : lt.shape = 1) (h : Orch.take validB (k + 1) (.mk lt []) l = some (v0, rest)) :
    4 ≤ l.length ∧ Orch.uns (l.take 4) ≤ 200 ∧ Orch.uns (l.take 4) ≤ l.length - 4 ∧ v0 = .mk 0 ⟨((l.drop 4).take (Orch.uns (l.take 4))).toArray⟩ [] ∧ rest = (l.drop 4).drop (Orch.uns (l.take 4)) := by
  rw [Orch.take] at h
  simp only [Orch.Ty.l, hsh] at h
  cases hc : Orch.count l 200 with
  | none => rw [hc] at h; cases h
  | some nr =>
    obtain ⟨n, r⟩ := nr
    rw [hc] at h
    simp only at h
    unfold Orch.count at hc
    split at hc
    · cases hc
    · split at hc
      · cases hc
      · simp only [Option.some.injEq, Prod.mk.injEq] at hc
        obtain ⟨rfl, rfl⟩ := hc
        by_cases h1 : (l.drop 4).length < Orch.uns (l.take 4)
        · rw [if_pos h1] at h; cases h
        · rw [if_neg h1] at h
          split at h
          · simp only [Option.some.injEq, Prod.mk.injEq] at h
            rw [List.length_drop] at h1
            exact ⟨by omega, by omega, by omega, h.1.symm, h.2.symm⟩
          · cases h

theorem count_is {l : List UInt8} {most n : Nat} {r : List UInt8} (h : Orch.count l most = some (n, r)) : 4 ≤ l.length ∧ n = Orch.uns (l.take 4) ∧ n ≤ most ∧ r = l.drop 4 := by
  unfold Orch.count at h
  split at h
  · cases h
  · split at h
    · cases h
    · simp only [Option.some.injEq, Prod.mk.injEq] at h
      obtain ⟨rfl, rfl⟩ := h
      exact ⟨by omega, rfl, by omega, rfl⟩

theorem numI_small {l : List UInt8} (h4 : 4 ≤ l.length) (hu : Orch.uns (l.take 4) ≤ 200) : numI (l.take 4) = Orch.uns (l.take 4) := by
  have hl : (l.take 4).length = 4 := by rw [List.length_take]; omega
  rw [numI_4 hl]
  unfold Orch.sgn
  rw [hl, if_neg (by omega)]

theorem take_pre {k : Nat} {t : Orch.Ty} : ∀ (b : List UInt8) (e : Orch.V) (rest : List UInt8), Orch.take validB k t b = some (e, rest) → ∃ pre, b = pre ++ rest := fun b e rest h => by
  obtain ⟨pre, hb, _⟩ := Orch.put_take validB _ _ _ _ _ h
  exact ⟨pre, hb⟩

theorem bytes_str (l : List UInt8) : strOfNums (l.map fun c => (c.toNat : Int)) = (⟨l.toArray⟩ : ByteArray) := by
  unfold strOfNums
  congr 2
  rw [List.map_map]
  conv => rhs; rw [← List.map_id l]
  apply List.map_congr_left
  intro c _
  simp

theorem conv_at (W : World) (b off n cap : Nat) (l : List UInt8) (hn : l.length = n) (hb : Bytes W b off l) : (convert 57 9 (.slice (some ⟨b, off, none⟩) n cap)).run Tryz.prog W = .ok (.string ⟨l.toArray⟩) W := by
  have := run_convert_bytes_arg (P := Tryz.prog) W 57 5 Tryz.underlying57 Tryz.underlying5 b off n cap (l.map fun c => (c.toNat : Int)) (by rw [List.length_map, hn]) (fun i hi => by
    have h1 := hb i (by omega)
    rw [h1, List.getD_eq_getElem?_getD, List.getElem?_map, List.getElem?_eq_getElem (by omega)]
    rfl) 9 Tryz.underlying9
  rw [bytes_str] at this
  exact this

def GsSaid (k : Nat) : Prop := ∀ (w : World) (T : ByteArray) (t : Orch.Ty), T.size ≤ 64 → Orch.ptype k T.data.toList = some (t, []) → ∀ (bv : Value) (l : List UInt8), l.length ≤ 140737488355328 → BsAt w bv l →
  Calls Tryz.prog 135 #[.string T, bv] w fun e w' => GsRes w w' e l (Orch.take validB k t l) ∧ Below w.heap.size w w'

theorem gs_num {k : Nat} {w : World} {lt : Orch.Lt} {l : List UInt8} (hsh : lt.shape = 0) (sz : Nat) (hsz : lt.size = sz) (hs8 : sz ≤ 8) (hn : sz ≤ l.length → lt.least ≤ Orch.sgn (l.take sz) → Orch.sgn (l.take sz) ≤ lt.most → numI (l.take sz) = Orch.sgn (l.take sz)) :
    ∀ e w', (e = .returned (.tuple #[vv (numI (l.take sz)) ⟨#[]⟩ (.slice none 0 0), .int .i64 (sz : Nat)]) ∧ Below w.heap.size w w') → GsRes w w' e l (Orch.take validB (k + 1) (.mk lt []) l) ∧ Below w.heap.size w w' := by
  rintro e w' ⟨rfl, hb⟩
  refine ⟨⟨.mk (numI (l.take sz)) ⟨#[]⟩ [], .slice none 0 0, sz, rfl, OwnV.nil _ _, .mk _ _ _ (numI_in _) (by decide) (by decide) (fun e he => by cases he), by omega, fun v0 rest h => ?_⟩, hb⟩
  obtain ⟨h1, h2, h3, h4, h5⟩ := take_num hsh h
  rw [hsz] at h1 h2 h3 h4 h5
  refine ⟨by rw [h2, hn h1 h4 h5], ?_⟩
  rw [h3, List.length_drop]
  omega

theorem gs_succ (k : Nat) (hk : k ≤ 9) (ih : GsSaid k) : GsSaid (k + 1) := by
  intro w T t hT hp bv l hl hbv
  obtain ⟨b, off, cap, rfl, hcap, hbw, hby⟩ := hbv
  have hbyW : ∀ W, Below w.heap.size w W → Bytes W b off l := fun W hb i hi => (hb.cell (p := ⟨b, off + i, none⟩) hbw).trans (hby i hi)
  have hnum : ∀ m, m ≤ 8 → ∀ W, Below w.heap.size w W → Calls Tryz.prog 144 #[.slice (some ⟨b, off, none⟩) (min m l.length) cap] W fun e w' => e = .returned (.int .i64 (numI (l.take m))) ∧ w' = W := fun m hm W hb =>
    numberOf_any W b off (min m l.length) cap (l.take m) (by rw [List.length_take]) (by omega) ((hbyW W hb).take m) (by omega)
  rcases Orch.one_inv hp with ⟨c, lt, hsT, hfind, hfin, hleaf, rfl⟩ | ⟨c, lt, p, ts, hsT, hfind, hm, hrow, rfl, hts, hnot, hsh⟩
  · have hTc : T = ⟨#[c]⟩ := ba_ext (by rw [hsT])
    subst hTc
    have htxt : ∀ (c : UInt8) (lt : Orch.Lt), (c = 98 ∨ c = 116) → lt.shape = 1 → Calls Tryz.prog 135 #[.string ⟨#[c]⟩, .slice (some ⟨b, off, none⟩) l.length cap] w fun e w' => GsRes w w' e l (Orch.take validB (k + 1) (.mk lt []) l) ∧ Below w.heap.size w w' := by
      intro c lt hc hsh
      by_cases hok : 4 ≤ l.length ∧ 0 ≤ numI (l.take 4) ∧ numI (l.take 4) ≤ 200
      · obtain ⟨h4, h0, h200⟩ := hok
        obtain ⟨n, hn⟩ : ∃ n : Nat, numI (l.take 4) = n := Int.eq_ofNat_of_zero_le h0
        have hN := hnum 4 (by omega)
        rw [hn] at hN h200
        have hlen : ((l.drop 4).take n).length = min n (l.length - 4) := by rw [List.length_take, List.length_drop]
        refine (guess_tx c hc w b off l.length cap hcap hl n hN h4 (by omega) ⟨((l.drop 4).take n).toArray⟩ (fun W cap' hb => conv_at W b _ _ cap' ((l.drop 4).take n) hlen ?_)).mono ?_
        · by_cases hc4 : cap = 4
          · rw [if_pos hc4]
            intro i hi
            rw [hlen] at hi
            omega
          · rw [if_neg hc4]
            exact ((hbyW W hb).drop 4).take n
        · rintro e w' ⟨rfl, hb⟩
          refine ⟨⟨.mk 0 ⟨((l.drop 4).take n).toArray⟩ [], .slice none 0 0, 4 + n, rfl, OwnV.nil _ _, .mk _ _ _ ⟨by omega, by omega⟩ ?_ (by decide) (fun e he => by cases he), by omega, fun v0 rest h => ?_⟩, hb⟩
          · rw [ba_size, hlen]; omega
          · obtain ⟨h1, h2, h3, h5, h6⟩ := take_txt hsh h
            have hnn := numI_small h1 h2
            have hne : n = Orch.uns (l.take 4) := by omega
            rw [← hne] at h3 h5 h6
            refine ⟨h5, ?_⟩
            rw [h6, List.length_drop, List.length_drop]
            omega
      · refine (guess_tx0 c hc w b off l.length cap hcap hl (numI (l.take 4)) (hnum 4 (by omega)) (by omega)).mono ?_
        rintro e w' ⟨rfl, hb⟩
        refine ⟨⟨.mk 0 ⟨#[]⟩ [], .slice none 0 0, 4, rfl, OwnV.nil _ _, .mk _ _ _ ⟨by omega, by omega⟩ (by decide) (by decide) (fun e he => by cases he), by omega, fun v0 rest h => ?_⟩, hb⟩
        obtain ⟨h1, h2, h3, h5, h6⟩ := take_txt hsh h
        have hnn := numI_small h1 h2
        exact absurd ⟨h1, by omega, by omega⟩ hok
    rcases leaf_letter hleaf hfind with ⟨rfl, rfl⟩ | ⟨rfl, rfl⟩ | ⟨rfl, rfl⟩ | ⟨rfl, rfl⟩ | ⟨rfl, rfl⟩
    · refine (guess_63 w b off l.length cap hcap hl (numI (l.take 1)) (hnum 1 (by omega))).mono (gs_num rfl 1 rfl (by omega) (fun h1 h2 h3 => ?_))
      have hl1 : (l.take 1).length = 1 := by rw [List.length_take]; omega
      rw [numI_1 hl1]
      unfold Orch.sgn at h2 h3 ⊢
      rw [hl1] at h2 h3 ⊢
      have hu := Orch.uns_lt (l.take 1)
      rw [hl1] at hu
      simp only at h2 h3
      split at h2
      · omega
      · rename_i hq
        rw [if_neg hq]
    · refine (guess_52 w b off l.length cap hcap hl (numI (l.take 4)) (hnum 4 (by omega))).mono (gs_num rfl 4 rfl (by omega) (fun h1 h2 h3 => ?_))
      exact numI_4 (by rw [List.length_take]; omega)
    · refine (guess_56 w b off l.length cap hcap hl (numI (l.take 8)) (hnum 8 (by omega))).mono (gs_num rfl 8 rfl (by omega) (fun h1 h2 h3 => ?_))
      exact numI_8 (by rw [List.length_take]; omega)
    · exact htxt 98 _ (.inl rfl) rfl
    · exact htxt 116 _ (.inr rfl) rfl
  · obtain ⟨hTs, hTx⟩ := inner hsT
    have hT0 := first_of hsT (by omega)
    have hp1 : 1 ≤ p.length := by
      cases ts with
      | nil => exact absurd rfl hts
      | cons t0 tr => have := hrow.pos; cases p with | nil => exact absurd rfl this | cons x y => simp
    have hext : ∀ W, Below w.heap.size w W → True := fun _ _ => trivial
    rcases hsh with ⟨hsh, rfl⟩ | ⟨hsh, rfl⟩
    · cases ts with
      | nil => exact absurd rfl hts
      | cons t0 tr =>
        have htr : tr = [] := by
          cases tr with
          | nil => rfl
          | cons a b => exact absurd ⟨hsh, by simp⟩ hnot
        subst htr
        obtain ⟨q, r, rfl, hone, hr⟩ := hrow.one
        cases hr
        rw [List.append_nil] at hTx hTs hp1
        have hpart : ∀ i, Orch.part (.mk lt [t0]) i = t0 := fun i => by simp [Orch.part, Orch.Ty.l, Orch.Ty.ps, hsh]
        have h0 := hone.reads []
        rw [List.append_nil] at h0
        have hff := hone.first []
        rw [List.append_nil] at hff
        have hTK : Orch.take validB (k + 1) (.mk lt [t0]) l = (match Orch.count l 32 with | none => none | some (n, rest) => tkN (fun _ => Orch.take validB k t0) n 0 rest).map Orch.listV := by
          rw [Orch.take]
          simp only [Orch.Ty.l, hsh]
          cases Orch.count l 32 with
          | none => rfl
          | some nr =>
            obtain ⟨n, r⟩ := nr
            simp only [tkN_takeE, hpart]
        rw [hTK]
        refine guess_91 w T ⟨q.toArray⟩ (by omega) hT hT0 hTx (by rw [ba_size]; omega) b off cap l hl hcap hbw hby (numI (l.take 4)) (numI_in _) (hnum 4 (by omega)) (fun _ => Orch.take validB k t0) (fun i => take_pre) _ ?_ ?_ (fun W => ?_) (fun W bv' l' i hb hl' hbs => ?_)
        · intro es rest ht
          cases hc : Orch.count l 32 with
          | none => rw [hc] at ht; cases ht
          | some nr =>
            obtain ⟨n, r⟩ := nr
            rw [hc] at ht
            obtain ⟨c1, c2, c3, c4⟩ := count_is hc
            have hnn := numI_small c1 (by omega)
            exact ⟨c1, n, by rw [hnn, c2]; simp, es, by rw [← c4]; exact ht, rfl⟩
        · intro hgt
          cases hc : Orch.count l 32 with
          | none => rfl
          | some nr =>
            obtain ⟨n, r⟩ := nr
            obtain ⟨c1, c2, c3, c4⟩ := count_is hc
            have hnn := numI_small c1 (by omega)
            omega
        · refine (first_any _ W (by rw [ba_size]; omega) (by rw [ba_size]; omega)).mono ?_
          rintro e w' ⟨⟨x, hx, rfl⟩, rfl⟩
          rw [ba_of, hff] at hx
          exact ⟨by rw [ba_ext (a := x) (b := ⟨q.toArray⟩) (by rw [hx, ba_of])], rfl⟩
        · exact ih W _ t0 (by rw [ba_size]; omega) (by rw [ba_of]; exact h0) bv' l' hl' hbs
    · obtain ⟨xt, pt, hx0, hxi, hxm⟩ := row_texts hrow
      have hpart : ∀ i, Orch.part (.mk lt ts) i = ts.getD i default := fun i => by simp [Orch.part, Orch.Ty.l, Orch.Ty.ps, hsh]
      have hts1 : 1 ≤ ts.length := by cases ts with | nil => exact absurd rfl hts | cons a b => simp
      have hone : ∀ i, i < ts.length → Orch.ptype k (pt i) = some (ts.getD i default, []) ∧ Orch.firstL (xt i) = pt i ∧ 1 ≤ (pt i).length ∧ (xt i).length = (pt i).length + (xt (i + 1)).length := fun i hi => by
        obtain ⟨h1, h2⟩ := hxi i hi
        have h0 := h1.reads []
        rw [List.append_nil] at h0
        refine ⟨h0, by rw [h2]; exact h1.first _, ?_, by rw [h2, List.length_append]⟩
        obtain ⟨c, r, h, _⟩ := h1.head
        rw [h]; simp
      have hxl : ∀ i, i ≤ ts.length → (xt i).length + i ≤ p.length := by
        intro i
        induction i with
        | zero => intro _; rw [hx0]; exact Nat.le_refl _
        | succ j ihj =>
          intro hj
          have h1 := ihj (by omega)
          obtain ⟨_, _, h3, h4⟩ := hone j (by omega)
          omega
      have hTK : Orch.take validB (k + 1) (.mk lt ts) l = (tkN (fun i => Orch.take validB k (ts.getD i default)) ts.length 0 l).map Orch.listV := by
        rw [Orch.take]
        simp only [Orch.Ty.l, Orch.Ty.ps, hsh, tkN_takeE, hpart]
      rw [hTK]
      refine guess_40 w T (fun i => ⟨(xt i).toArray⟩) (fun i => ⟨(pt i).toArray⟩) ts.length hts1 (by omega) hT hT0 (by rw [hx0]; exact hTx) ?_ (fun i hi => ?_) (by rw [ba_size, hxm]; rfl) b off cap l hl hcap hbw hby (numI (l.take 4)) (numI_in _) (hnum 4 (by omega)) (fun i => Orch.take validB k (ts.getD i default)) (fun i => take_pre) _ ?_ (fun W i hi => ?_) (fun W bv' l' i hi hb hl' hbs => ?_)
      · rw [ba_size]
        have := hxl ts.length (Nat.le_refl _)
        rw [hx0]
        omega
      · obtain ⟨h1, h2, h3, h4⟩ := hone i hi
        have h5 := hxl i (by omega)
        rw [ba_size, ba_size]
        refine ⟨by omega, by omega, by omega, ba_ext ?_⟩
        show ((ByteArray.mk (xt i).toArray).extract (pt i).length (xt i).length).data.toList = (ByteArray.mk (xt (i + 1)).toArray).data.toList
        rw [ba_of (xt (i + 1)), ByteArray.data_extract, Array.toList_extract, List.extract_eq_take_drop, ba_of (xt i), (hxi i hi).2, List.drop_left, List.length_append, Nat.add_sub_cancel_left, List.take_length]
      · intro es rest ht
        exact ⟨Nat.zero_le _, ts.length, by simp, es, by rw [List.drop_zero]; exact ht, rfl⟩
      · obtain ⟨h1, h2, h3, h4⟩ := hone i hi
        have h5 := hxl i (by omega)
        refine (first_any _ W (by rw [ba_size]; omega) (by rw [ba_size]; omega)).mono ?_
        rintro e w' ⟨⟨x, hx, rfl⟩, rfl⟩
        rw [ba_of, h2] at hx
        exact ⟨by rw [ba_ext (a := x) (b := ⟨(pt i).toArray⟩) (by rw [hx, ba_of])], rfl⟩
      · obtain ⟨h1, h2, h3, h4⟩ := hone i hi
        have h5 := hxl i (by omega)
        exact ih W _ _ (by rw [ba_size]; omega) (by rw [ba_of]; exact h1) bv' l' hl' hbs

theorem gs_all : ∀ k, k ≤ 9 → GsSaid k := by
  intro k
  induction k with
  | zero => intro _ w T t _ hp; cases hp
  | succ k ih => intro h; exact gs_succ k (by omega) (ih (by omega))
end Go.Proofs.YtlghcldiboecoaaGreatDoor
