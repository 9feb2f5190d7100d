/- The document's answer: Decode, whole. -/
import Derived.Test.YtlghcldiboecoaaGreatDoorDGuess
import Derived.Test.YtlghcldiboecoaaGreatDoorREnc
import Derived.Test.YtlghcldiboecoaaGreatDoorODec
import Derived.Test.YtlghcldiboecoaaGreatDoorKCode
import Derived.Test.YtlghcldiboecoaaGreatDoorLStep
set_option linter.unusedVariables false
namespace Go.Proofs.YtlghcldiboecoaaGreatDoor
open Go.RowKit

theorem OwT.ws {w : World} {lo hi : Nat} {vs : List Orch.V} {v : Value} (h : OwT w lo hi vs v) : WsAt w (fun b => lo ≤ b ∧ b < hi) vs v := by
  induction h with
  | nil lo hi => exact .nil
  | row lo hi qs g cap hhi hown hin hdis hr ih =>
    by_cases h0 : qs = []
    · subst h0
      exact .emp _ _
    · have hl : (qs.map Oe.pr).length = qs.length := List.length_map _
      have hlo := (hown.lt g rfl).1
      have := WsAt.row (w := w) (S := fun b => lo ≤ b ∧ b < hi) (qs.map Oe.pr) g 0 cap (by simpa using h0) ?_ ⟨hlo, hhi⟩ (fun j u hu => ?_) (fun p hp => ?_)
      · rw [pr_fst, hl] at this
        exact this
      · rcases hown.2 with ⟨e, _⟩ | ⟨g', cap', cur, e, _, _, hc, _⟩
        · cases e
        · cases e; rw [hl]; exact hc
      · have := hown.cells (g := g) rfl j u hu
        rw [Addr.add_lit] at this
        exact this
      · obtain ⟨q, hq, rfl⟩ := List.mem_map.1 hp
        have := hin q hq
        exact (ih q hq).congr (fun b hb => ⟨by omega, by omega⟩) (fun _ _ => rfl)

set_option maxRecDepth 8000 in
set_option maxHeartbeats 2000000 in
theorem rd_schema (w : World) (str : ByteArray) (bv : Value)
    (HI : Hid (∀ W, Calls Tryz.prog 131 #[.string str] W fun e w' => e = .returned (.bool false) ∧ w' = W)) :
    Calls Tryz.prog 89 #[.string str, bv] w fun e w' => dRes w w' e (.error 1) ∧ Below w.heap.size w w' := by
  have N0 := hide (heap_alloc_new w (.cells #[.int .i64 0, .string ⟨#[]⟩, .slice none 0 0] 113))
  go_enter Tryz.func89, Tryz.ntmps89
  go_wp2_with (first
    | (go_at_call 131; refine (HI.out _).mono ?_; rintro e w1 ⟨rfl, hw1⟩; have hw2 := hw1.symm; clear hw1; subst hw2)
    | (refine wpList_store_row rfl 113 _ _ rfl w.heap.size #[.int .i64 0, .string ⟨#[]⟩, .slice none 0 0] rfl rfl 113 _ N0.out Tryz.size113 rfl (one_v _ _ _ _ _) ?_))
  refine bp_gen (fun X => X.heap[w.heap.size]? = some (.cells #[.int .i64 0, .string ⟨#[]⟩, .slice none 0 0] 113) ∧ Below w.heap.size w X) (by first | exact ⟨heap_alloc_new _ _, below1 _ _⟩ | exact ⟨setRow_heap _ _ _ _ _ _ N0.out, below_setRow (below1 _ _) (Nat.le_refl _) _⟩) ?_
  rintro X ⟨HQ, hbX⟩
  have c0 := cellOf (j := 0) HQ rfl
  have c1 := cellOf (j := 1) HQ rfl
  have c2 := cellOf (j := 2) HQ rfl
  have HBX := hide hbX
  clear hbX HQ
  exact bodyPost_ret (v := .tuple #[vv 0 ⟨#[]⟩ (.slice none 0 0), .int .i64 1]) (by simp [results, Tryz.results89, go_sem, c0, c1, c2]) rfl ⟨rfl, HBX.out⟩

theorem ba_toList (l : List UInt8) : (ByteArray.mk l.toArray).toList = l := by
  rw [Lib.toList_data]

theorem dec_cases {s : List UInt8} {t : Orch.Ty} (hp : Orch.parse s = some t) (l : List UInt8) : Orch.decode validB s l = .error 3 ∨ ∃ v, Orch.decode validB s l = .ok v ∧ Orch.take validB 9 t l = some (v, []) := by
  unfold Orch.decode
  rw [hp]
  simp only
  split
  · exact .inl rfl
  · split
    · rename_i v hv
      exact .inr ⟨v, rfl, hv⟩
    · exact .inl rfl

theorem dec_no {s : List UInt8} {t : Orch.Ty} (hp : Orch.parse s = some t) {l : List UInt8} {v : Orch.V} (hv : ∀ v0 rest, Orch.take validB 9 t l = some (v0, rest) → v0 = v) (hne : Orch.encode validB s v ≠ .ok l) : Orch.decode validB s l = .error 3 := by
  rcases dec_cases hp l with h | ⟨v0, h, ht⟩
  · exact h
  · rw [hv v0 [] ht] at h
    exact absurd (Orch.canon validB s l v h) hne

/-- .. and the value is in range. -/
def dRes2 (w w' : World) (e : Ending) (D : Except Nat Orch.V) : Prop := dRes w w' e D ∧ ∀ v, D = .ok v → InV v

set_option maxRecDepth 8000 in
set_option maxHeartbeats 4000000 in
theorem rd_any (w : World) (str : ByteArray) (hs : str.size ≤ 140737488355328) (t : Orch.Ty) (hp : Orch.parse str.data.toList = some t) (b off k cap : Nat) (l : List UInt8) (hlk : l.length = k) (x : ByteArray) (hx : x = ⟨l.toArray⟩)
    (HI : Hid (∀ W, Calls Tryz.prog 131 #[.string str] W fun e w' => e = .returned (.bool true) ∧ w' = W))
    (HG : Hid (Calls Tryz.prog 135 #[.string str, .slice (some ⟨b, off, none⟩) k cap] (w.alloc (.cells #[.int .i64 0, .string ⟨#[]⟩, .slice none 0 0] 113)) fun e w' => GsRes (w.alloc (.cells #[.int .i64 0, .string ⟨#[]⟩, .slice none 0 0] 113)) w' e l (Orch.take validB 9 t l) ∧ Below (w.alloc (.cells #[.int .i64 0, .string ⟨#[]⟩, .slice none 0 0] 113)).heap.size (w.alloc (.cells #[.int .i64 0, .string ⟨#[]⟩, .slice none 0 0] 113)) w'))
    (HX : Hid (∀ W, Below w.heap.size w W → (convert 57 9 (.slice (some ⟨b, off, none⟩) k cap)).run Tryz.prog W = .ok (.string x) W)) :
    Calls Tryz.prog 89 #[.string str, .slice (some ⟨b, off, none⟩) k cap] w fun e w' => dRes2 w w' e (Orch.decode validB str.data.toList l) ∧ Below w.heap.size w w' := by
  have N0 := hide (heap_alloc_new w (.cells #[.int .i64 0, .string ⟨#[]⟩, .slice none 0 0] 113))
  obtain ⟨D, hD⟩ : ∃ D, Orch.decode validB str.data.toList l = D := ⟨_, rfl⟩
  rw [hD]
  have HD := hide hD
  have HP := hide hp
  have HXE := hide hx
  clear hD hp hx hlk
  go_enter Tryz.func89, Tryz.ntmps89
  go_wp2_with (first
    | (go_at_call 131; refine (HI.out _).mono ?_; rintro e w1 ⟨rfl, hw1⟩; have hw2 := hw1.symm; clear hw1; subst hw2)
    | (go_at_call 135; refine HG.out.mono ?_; rintro e w2 ⟨⟨v, lv, used, rfl, hov, hiv, hus, hco⟩, hb2⟩; obtain ⟨va, vc, rfl⟩ := OwT.shape hov; have HOV := hide hov; have HIV := hide hiv; have HCO := hide hco; have HB2 : Hid (Below w.heap.size w w2) := (below1 _ _).trans (hb2.mono (by simp)); have HH : Hid (w2.heap[w.heap.size]? = some (.cells #[.int .i64 0, .string ⟨#[]⟩, .slice none 0 0] 113)) := (hb2.block _ (ltOf N0.out)).trans N0.out; clear hb2 hov hiv hco hus))
  have HE := hide (refEncode_any (w2.alloc (.cells #[.int .i64 v.n, .string v.s, .slice va v.l.length vc] 113)) str hs v HIV.out (.slice va v.l.length vc) ((OwT.ws HOV.out).congr (fun b hb => by have := hb.2; simp; omega) (fun b hb => Below.heap_alloc _ _ _ hb.2)))
  have HBA : Hid (Below w.heap.size w (w2.alloc (.cells #[.int .i64 v.n, .string v.s, .slice va v.l.length vc] 113))) := HB2.out.alloc HB2.out.size _
  have HHA : Hid ((w2.alloc (.cells #[.int .i64 v.n, .string v.s, .slice va v.l.length vc] 113)).heap[w.heap.size]? = some (.cells #[.int .i64 0, .string ⟨#[]⟩, .slice none 0 0] 113)) := (Below.heap_alloc _ _ _ (ltOf HH.out)).trans HH.out
  cases henc : Orch.encode validB str.data.toList v with
  | error c =>
    have HDE : Hid (D = .error 3) := HD.out.symm.trans (dec_no HP.out (fun v0 rest h => (HCO.out v0 rest h).1) (by rw [henc]; simp))
    rw [henc] at HE
    have hc : 1 ≤ c := by
      unfold Orch.encode at henc
      split at henc
      · cases henc; omega
      · split at henc
        · cases henc; omega
        · cases henc
    have hcz : ((c : Int) == 0) = false := by rw [beq_eq_false_iff_ne]; omega
    clear henc
    go_wp2_with (first
      | (go_at_call 83; refine HE.out.mono ?_; rintro e w3 ⟨he, hb3⟩; have he' : e = .returned (.tuple #[.slice none 0 0, .int .i64 c]) := he; subst he'; clear he; have HB3 : Hid (Below w.heap.size w w3) := HBA.out.trans (hb3.mono HBA.out.size); have HH3 : Hid (w3.heap[w.heap.size]? = some (.cells #[.int .i64 0, .string ⟨#[]⟩, .slice none 0 0] 113)) := (hb3.block _ (ltOf HHA.out)).trans HHA.out; clear hb3)
      | (refine wpList_store_row rfl 113 _ _ rfl w.heap.size #[.int .i64 0, .string ⟨#[]⟩, .slice none 0 0] rfl rfl 113 _ HH3.out Tryz.size113 rfl (one_v _ _ _ _ _) ?_))
    refine bp_gen (fun X => X.heap[w.heap.size]? = some (.cells #[.int .i64 0, .string ⟨#[]⟩, .slice none 0 0] 113) ∧ Below w.heap.size w X) ⟨setRow_heap _ _ _ _ _ _ HH3.out, below_setRow HB3.out (Nat.le_refl _) _⟩ ?_
    rintro X ⟨HQ, hbX⟩
    have c0 := cellOf (j := 0) HQ rfl
    have c1 := cellOf (j := 1) HQ rfl
    have c2 := cellOf (j := 2) HQ rfl
    have HBX := hide hbX
    clear hbX HQ
    refine bodyPost_ret (v := .tuple #[vv 0 ⟨#[]⟩ (.slice none 0 0), .int .i64 3]) (by simp [results, Tryz.results89, go_sem, c0, c1, c2]) rfl ⟨?_, HBX.out⟩
    rw [HDE.out]
    exact ⟨rfl, fun v h => by cases h⟩
  | ok bs =>
    rw [henc] at HE
    by_cases hbl : bs = l
    · have HDO : Hid (D = .ok v) := HD.out.symm.trans (by rw [← hbl]; exact (Orch.round validB _ _ _ henc).1)
      have HXB : Hid ((⟨bs.toArray⟩ : ByteArray) = x) := by show _ = _; rw [hbl, HXE.out]
      clear henc hbl
      go_wp2_with (first
        | (go_at_call 83; refine HE.out.mono ?_; rintro e w3 ⟨⟨ov, rfl, ho⟩, hb3⟩; obtain ⟨oa, oc, rfl⟩ := own_shape ho; have hcv1 := conv_own ho; rw [HXB.out] at hcv1; have HB3 : Hid (Below w.heap.size w w3) := HBA.out.trans (hb3.mono HBA.out.size); have HH3 : Hid (w3.heap[w.heap.size]? = some (.cells #[.int .i64 0, .string ⟨#[]⟩, .slice none 0 0] 113)) := (hb3.block _ (ltOf HHA.out)).trans HHA.out; have hcv2 := HX.out w3 HB3.out; have HV3 := hide ((hb3.block _ (by simp)).trans (heap_alloc_new w2 (.cells #[.int .i64 v.n, .string v.s, .slice va v.l.length vc] 113))); have v0 := cellOf (j := 0) HV3.out rfl; have v1 := cellOf (j := 1) HV3.out rfl; have v2 := cellOf (j := 2) HV3.out rfl; have HK3 : Hid (∀ b, b < w2.heap.size → w3.heap[b]? = w2.heap[b]?) := (fun b hb => (hb3.block b (by simp; omega)).trans (Below.heap_alloc _ _ _ hb)); have HS3 : Hid (w2.heap.size ≤ w3.heap.size) := (by have := hb3.size; simp at this; show _ ≤ _; omega); clear hb3 ho)
        | (refine wpList_store_row rfl 113 _ _ rfl w.heap.size #[.int .i64 v.n, .string v.s, .slice va v.l.length vc] rfl rfl 113 _ HH3.out Tryz.size113 rfl (one_v _ _ _ _ _) ?_))
      refine bp_gen (fun X => X.heap[w.heap.size]? = some (.cells #[.int .i64 v.n, .string v.s, .slice va v.l.length vc] 113) ∧ Below w.heap.size w X ∧ X.heap.size = w3.heap.size ∧ ∀ b, b ≠ w.heap.size → X.heap[b]? = w3.heap[b]?) ⟨setRow_heap _ _ _ _ _ _ HH3.out, below_setRow HB3.out (Nat.le_refl _) _, by simp, fun b hb => setRow_other _ _ _ _ hb⟩ ?_
      rintro X ⟨HQ, hbX, hsX, hkX⟩
      have c0 := cellOf (j := 0) HQ rfl
      have c1 := cellOf (j := 1) HQ rfl
      have c2 := cellOf (j := 2) HQ rfl
      have HBX := hide hbX
      have HSX := hide hsX
      have HKX := hide hkX
      clear hbX hsX hkX HQ v0 v1 v2 hcv1 hcv2
      refine bodyPost_ret (v := .tuple #[vv v.n v.s (.slice va v.l.length vc), .int .i64 0]) (by simp [results, Tryz.results89, go_sem, c0, c1, c2]) rfl ⟨?_, HBX.out⟩
      rw [HDO.out]
      refine ⟨?_, fun v h => by cases h; exact HIV.out⟩
      refine ⟨_, rfl, OwnV.keep HOV.out (by simp) (by rw [HSX.out]; exact HS3.out) (fun b h1 h2 => ?_)⟩
      have h1' : w.heap.size + 1 ≤ b := by simpa using h1
      exact (HKX.out b (by omega)).trans (HK3.out b h2)
    · have HDE : Hid (D = .error 3) := HD.out.symm.trans (dec_no HP.out (fun v0 rest h => (HCO.out v0 rest h).1) (by rw [henc]; simpa using hbl))
      obtain ⟨y, hy⟩ : ∃ y : ByteArray, (⟨bs.toArray⟩ : ByteArray) = y := ⟨_, rfl⟩
      have hne : (y.toList == x.toList) = false := by
        rw [beq_eq_false_iff_ne, ← hy, HXE.out, ba_toList, ba_toList]
        exact hbl
      have HXB := hide hy
      clear henc hbl hy
      go_wp2_with (first
        | (go_at_call 83; refine HE.out.mono ?_; rintro e w3 ⟨⟨ov, rfl, ho⟩, hb3⟩; obtain ⟨oa, oc, rfl⟩ := own_shape ho; have hcv1 := conv_own ho; rw [HXB.out] at hcv1; have HB3 : Hid (Below w.heap.size w w3) := HBA.out.trans (hb3.mono HBA.out.size); have HH3 : Hid (w3.heap[w.heap.size]? = some (.cells #[.int .i64 0, .string ⟨#[]⟩, .slice none 0 0] 113)) := (hb3.block _ (ltOf HHA.out)).trans HHA.out; have hcv2 := HX.out w3 HB3.out; clear hb3 ho)
        | (refine wpList_store_row rfl 113 _ _ rfl w.heap.size #[.int .i64 0, .string ⟨#[]⟩, .slice none 0 0] rfl rfl 113 _ HH3.out Tryz.size113 rfl (one_v _ _ _ _ _) ?_))
      refine bp_gen (fun X => X.heap[w.heap.size]? = some (.cells #[.int .i64 0, .string ⟨#[]⟩, .slice none 0 0] 113) ∧ Below w.heap.size w X) ⟨setRow_heap _ _ _ _ _ _ HH3.out, below_setRow HB3.out (Nat.le_refl _) _⟩ ?_
      rintro X ⟨HQ, hbX⟩
      have c0 := cellOf (j := 0) HQ rfl
      have c1 := cellOf (j := 1) HQ rfl
      have c2 := cellOf (j := 2) HQ rfl
      have HBX := hide hbX
      clear hbX HQ
      refine bodyPost_ret (v := .tuple #[vv 0 ⟨#[]⟩ (.slice none 0 0), .int .i64 3]) (by simp [results, Tryz.results89, go_sem, c0, c1, c2]) rfl ⟨?_, HBX.out⟩
      rw [HDE.out]
      exact ⟨rfl, fun v h => by cases h⟩

/-- The document's Decode is the program's. -/
theorem refDecode_any (w : World) (str : ByteArray) (hs : str.size ≤ 140737488355328) (bv : Value) (l : List UInt8) (hl : l.length ≤ 140737488355328) (hbv : BsAt w bv l) :
    Calls Tryz.prog 89 #[.string str, bv] w fun e w' => dRes2 w w' e (Orch.decode validB str.data.toList l) ∧ Below w.heap.size w w' := by
  have HI := fun W => isSchema_any str W hs
  cases hq : Orch.parse str.data.toList with
  | none =>
    have hf : isSch str.data.toList = false := by unfold isSch; rw [hq]; rfl
    rw [hf] at HI
    have hd : Orch.decode validB str.data.toList l = .error 1 := by unfold Orch.decode; rw [hq]
    rw [hd]
    exact (rd_schema w str bv HI).mono fun e w' h => ⟨⟨h.1, fun v h => by cases h⟩, h.2⟩
  | some t =>
    have hf : isSch str.data.toList = true := by unfold isSch; rw [hq]; rfl
    rw [hf] at HI
    have hp : Orch.ptype 9 str.data.toList = some (t, []) ∧ str.size ≤ 64 := by
      have hq' := hq
      unfold Orch.parse at hq'
      split at hq'
      · cases hq'
      · rename_i h64
        split at hq'
        · rename_i t' ht
          cases hq'
          rw [toList_len] at h64
          exact ⟨ht, by omega⟩
        · cases hq'
    have hb0 := below1 w (.cells #[.int .i64 0, .string ⟨#[]⟩, .slice none 0 0] 113)
    have hgs := gs_all 9 (by omega) (w.alloc (.cells #[.int .i64 0, .string ⟨#[]⟩, .slice none 0 0] 113)) str t hp.2 hp.1 bv l hl (hbv.below hb0 (Nat.le_refl _))
    obtain ⟨b, off, cap, rfl, hcap, hbw, hby⟩ := hbv
    exact rd_any w str hs t hq b off l.length cap l rfl ⟨l.toArray⟩ rfl HI hgs (fun W hb => conv_at W b off l.length cap l rfl (fun i hi => (hb.cell (p := ⟨b, off + i, none⟩) hbw).trans (hby i hi)))
end Go.Proofs.YtlghcldiboecoaaGreatDoor

/- How many values a decoded one has. -/
set_option linter.unusedVariables false
namespace Go.Proofs.YtlghcldiboecoaaGreatDoor
open Go.RowKit

theorem cnt_tkN {F : Nat → List UInt8 → Option (Orch.V × List UInt8)} {k : Nat} (hF : ∀ i b e r, F i b = some (e, r) → r.length + 1 ≤ b.length ∧ cntV e + k * r.length ≤ k * b.length) : ∀ m i b es r, tkN F m i b = some (es, r) → r.length + m ≤ b.length ∧ cntL es + k * r.length ≤ k * b.length := by
  intro m
  induction m with
  | zero =>
    intro i b es r h
    simp only [tkN, Option.some.injEq, Prod.mk.injEq] at h
    obtain ⟨rfl, rfl⟩ := h
    exact ⟨by omega, by simp [cntL]⟩
  | succ m ih =>
    intro i b es r h
    unfold tkN at h
    cases hq : F i b with
    | none => rw [hq] at h; cases h
    | some er =>
      obtain ⟨e, r1⟩ := er
      rw [hq] at h
      simp only at h
      cases ht : tkN F m (i + 1) r1 with
      | none => rw [ht] at h; cases h
      | some er2 =>
        obtain ⟨es2, r2⟩ := er2
        rw [ht] at h
        simp only [Option.some.injEq, Prod.mk.injEq] at h
        obtain ⟨rfl, rfl⟩ := h
        have h1 := hF i b e r1 hq
        have h2 := ih (i + 1) r1 es2 r2 ht
        refine ⟨by omega, ?_⟩
        simp only [cntL]
        omega

theorem cnt_take : ∀ (k : Nat) (s : List UInt8) (t : Orch.Ty), Orch.ptype k s = some (t, []) → ∀ b v r, Orch.take validB k t b = some (v, r) → r.length + 1 ≤ b.length ∧ cntV v + k * r.length ≤ k * b.length
  | 0, s, t, hp, b, v, r, h => by cases h
  | k + 1, s, t, hp, b, v, r, h => by
    rcases Orch.one_inv hp with ⟨c, lt, hsT, hfind, hfin, hleaf, rfl⟩ | ⟨c, lt, p, ts, hsT, hfind, hm, hrow, rfl, hts, hnot, hsh⟩
    · have hnum : ∀ sz, 1 ≤ sz → sz ≤ b.length → v.l = [] → r = b.drop sz → r.length + 1 ≤ b.length ∧ cntV v + (k + 1) * r.length ≤ (k + 1) * b.length := by
        intro sz h1 h2 h3 h4
        have hc := cntV_eq v
        rw [h3] at hc
        have hl : r.length = b.length - sz := by rw [h4, List.length_drop]
        have hc1 : cntV v = 1 := by rw [hc]; rfl
        refine ⟨by omega, ?_⟩
        rw [hc1]
        have : (k + 1) * (r.length + 1) ≤ (k + 1) * b.length := Nat.mul_le_mul_left _ (by omega)
        rw [Nat.mul_add] at this
        omega
      rcases leaf_letter hleaf hfind with ⟨rfl, rfl⟩ | ⟨rfl, rfl⟩ | ⟨rfl, rfl⟩ | ⟨rfl, rfl⟩ | ⟨rfl, rfl⟩
      · obtain ⟨h1, h2, h3, _⟩ := take_num rfl h
        exact hnum 1 (by omega) h1 (by rw [h2]; rfl) h3
      · obtain ⟨h1, h2, h3, _⟩ := take_num rfl h
        exact hnum 4 (by omega) h1 (by rw [h2]; rfl) h3
      · obtain ⟨h1, h2, h3, _⟩ := take_num rfl h
        exact hnum 8 (by omega) h1 (by rw [h2]; rfl) h3
      · obtain ⟨h1, h2, h3, h4, h5⟩ := take_txt rfl h
        exact hnum (4 + Orch.uns (b.take 4)) (by omega) (by omega) (by rw [h4]; rfl) (by rw [h5, List.drop_drop])
      · obtain ⟨h1, h2, h3, h4, h5⟩ := take_txt rfl h
        exact hnum (4 + Orch.uns (b.take 4)) (by omega) (by omega) (by rw [h4]; rfl) (by rw [h5, List.drop_drop])
    · have hfin : ∀ m i b0 es r0, Orch.takeE (Orch.take validB k) (.mk lt ts) m i b0 = some (es, r0) → (∀ j, i ≤ j → j < i + m → ∃ s, Orch.ptype k s = some (Orch.part (.mk lt ts) j, [])) → r0.length + m ≤ b0.length ∧ cntL es + k * r0.length ≤ k * b0.length := by
        intro m
        induction m with
        | zero =>
          intro i b0 es r0 h0 _
          simp only [Orch.takeE, Option.some.injEq, Prod.mk.injEq] at h0
          obtain ⟨rfl, rfl⟩ := h0
          exact ⟨by omega, by simp [cntL]⟩
        | succ m ihm =>
          intro i b0 es r0 h0 hpt
          unfold Orch.takeE at h0
          cases hq : Orch.take validB k (Orch.part (.mk lt ts) i) b0 with
          | none => rw [hq] at h0; cases h0
          | some er =>
            obtain ⟨e, r1⟩ := er
            rw [hq] at h0
            simp only at h0
            cases ht : Orch.takeE (Orch.take validB k) (.mk lt ts) m (i + 1) r1 with
            | none => rw [ht] at h0; cases h0
            | some er2 =>
              obtain ⟨es2, r2⟩ := er2
              rw [ht] at h0
              simp only [Option.some.injEq, Prod.mk.injEq] at h0
              obtain ⟨rfl, rfl⟩ := h0
              obtain ⟨s', hs'⟩ := hpt i (by omega) (by omega)
              have h1 := cnt_take k s' _ hs' b0 e r1 hq
              have h2 := ihm (i + 1) r1 es2 r2 ht (fun j h1 h2 => hpt j (by omega) (by omega))
              refine ⟨by omega, ?_⟩
              simp only [cntL]
              omega
      obtain ⟨xt, pt, hx0, hxi, hxm⟩ := row_texts hrow
      rcases hsh with ⟨hsh, rfl⟩ | ⟨hsh, rfl⟩
      · rw [Orch.take] at h
        simp only [Orch.Ty.l, hsh] at h
        cases hc : Orch.count b 32 with
        | none => rw [hc] at h; cases h
        | some nr =>
          obtain ⟨n, r1⟩ := nr
          rw [hc] at h
          simp only at h
          obtain ⟨c1, c2, c3, c4⟩ := count_is hc
          cases ht : Orch.takeE (Orch.take validB k) (.mk lt ts) n 0 r1 with
          | none => rw [ht] at h; cases h
          | some er =>
            obtain ⟨es, r2⟩ := er
            rw [ht] at h
            simp only [Option.map_some, Option.some.injEq, Orch.listV, Prod.mk.injEq] at h
            obtain ⟨rfl, rfl⟩ := h
            have hts1 : 0 < ts.length := by cases ts with | nil => exact absurd rfl hts | cons a b => simp
            have h1 := hfin n 0 r1 es r2 ht (fun j _ _ => by
              have hp0 : Orch.part (.mk lt ts) j = ts.getD 0 default := by simp [Orch.part, Orch.Ty.l, Orch.Ty.ps, hsh]
              rw [hp0]
              have h0 := (hxi 0 hts1).1.reads []
              rw [List.append_nil] at h0
              exact ⟨_, h0⟩)
            have hl : r1.length = b.length - 4 := by rw [c4, List.length_drop]
            have hcv : cntV (.mk 0 ByteArray.empty es) = 1 + cntL es := rfl
            refine ⟨by omega, ?_⟩
            rw [hcv, Nat.add_mul, Nat.add_mul, Nat.one_mul, Nat.one_mul]
            have : k * r1.length ≤ k * b.length := Nat.mul_le_mul_left _ (by omega)
            omega
      · rw [Orch.take] at h
        simp only [Orch.Ty.l, Orch.Ty.ps, hsh] at h
        cases ht : Orch.takeE (Orch.take validB k) (.mk lt ts) ts.length 0 b with
        | none => rw [ht] at h; cases h
        | some er =>
          obtain ⟨es, r2⟩ := er
          rw [ht] at h
          simp only [Option.map_some, Option.some.injEq, Orch.listV, Prod.mk.injEq] at h
          obtain ⟨rfl, rfl⟩ := h
          have hts1 : 0 < ts.length := by cases ts with | nil => exact absurd rfl hts | cons a b => simp
          have h1 := hfin ts.length 0 b es r2 ht (fun j _ hj => by
            have hp0 : Orch.part (.mk lt ts) j = ts.getD j default := by simp [Orch.part, Orch.Ty.l, Orch.Ty.ps, hsh]
            rw [hp0]
            have h0 := (hxi j (by omega)).1.reads []
            rw [List.append_nil] at h0
            exact ⟨_, h0⟩)
          have hcv : cntV (.mk 0 ByteArray.empty es) = 1 + cntL es := rfl
          refine ⟨by omega, ?_⟩
          rw [hcv, Nat.add_mul, Nat.add_mul, Nat.one_mul, Nat.one_mul]
          omega

theorem cnt_dec {s l : List UInt8} {v : Orch.V} (h : Orch.decode validB s l = .ok v) : cntL v.l ≤ 9990 := by
  unfold Orch.decode at h
  split at h
  · cases h
  · rename_i t hp
    split at h
    · cases h
    · rename_i hl
      split at h
      · rename_i v' ht
        cases h
        unfold Orch.parse at hp
        split at hp
        · cases hp
        · split at hp
          · rename_i t' hpt
            cases hp
            have := (cnt_take 9 s t hpt l v [] ht).2
            have hc := cntV_eq v
            simp at this
            omega
          · cases hp
      · cases h

theorem dec_code {s l : List UInt8} {c : Nat} (h : Orch.decode validB s l = .error c) : c ≤ 3 ∧ 1 ≤ c := by
  unfold Orch.decode at h
  split at h
  · cases h; omega
  · split at h
    · cases h; omega
    · split at h
      · cases h
      · cases h; omega
end Go.Proofs.YtlghcldiboecoaaGreatDoor
