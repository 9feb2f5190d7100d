/- Disks: its own loop. -/
import Derived.Test.YtlghcldiboecoaaGreatDoorQ11
set_option linter.unusedVariables false
set_option linter.unusedSimpArgs false
namespace Go.Proofs.YtlghcldiboecoaaGreatDoor
open Go.RowKit

/-- The script, as it was handed in. -/
def ActsAt (w : World) (A : Nat) (sa : Option Addr) (sn sc : Nat) (T : Nat → Nat) : Prop :=
  sn ≤ 1048576 ∧ T 0 = 0 ∧ (∀ i, i ≤ sn → T i ≤ 1048576) ∧ ∀ i, i < sn → ∃ (g o : Nat) (k a x : Int) (s t : ByteArray), sa = some ⟨g, o, none⟩ ∧ g < A ∧ sn ≤ sc ∧ w.cell? ⟨g, o + i * 5, none⟩ = some (.int .i64 k) ∧ w.cell? ⟨g, o + i * 5 + 1, none⟩ = some (.int .i64 a) ∧ w.cell? ⟨g, o + i * 5 + 2, none⟩ = some (.int .i64 x) ∧ w.cell? ⟨g, o + i * 5 + 3, none⟩ = some (.string s) ∧ w.cell? ⟨g, o + i * 5 + 4, none⟩ = some (.string t) ∧ (-9223372036854775808 ≤ a ∧ a ≤ 9223372036854775807) ∧ (-9223372036854775808 ≤ x ∧ x ≤ 9223372036854775807) ∧ T i + t.size ≤ T (i + 1)

theorem Tryz.info40 : (Tryz.prog.info? 40).map (fun i => (i.zero, i.size, i.bytes)) = some (some (.agg #[.pointer none, .pointer none, .pointer none]), 3, 24) := by kernel_rfl

/-- What the program's Crash leaves (DkM: pcrash_any). -/
def Crashes : Prop := ∀ (w : World) (HB SB : Nat) (left keep : Int) (L : List Fl) (fa : Option Addr) (fc : Nat) (hH : w.heap[HB]? = some (.cells #[.pointer (some ⟨SB, 0, none⟩)] 86)) (h : St 82 91 w SB left L fa fc) (hk0 : -9223372036854775808 ≤ keep) (hk1 : keep ≤ 9223372036854775807) (hL : L.length ≤ 10000000) (hs : ∀ f, f ∈ L → f.s ≤ f.d.size) (hd : ∀ f, f ∈ L → f.d.size ≤ 1099511627776),
    Calls Tryz.prog 14 #[.pointer (some ⟨HB, 0, none⟩), .int .i64 keep] w fun e w' => e = .returned (.tuple #[.pointer (some ⟨w.heap.size + 1, 0, none⟩), .pointer (some ⟨w.heap.size + 2, 0, none⟩)]) ∧ Below w.heap.size w w' ∧ w'.heap[w.heap.size + 1]? = some (.cells #[.pointer (some ⟨w.heap.size, 0, none⟩)] 84) ∧ w'.heap[w.heap.size + 2]? = some (.cells #[.pointer (some ⟨w.heap.size, 0, none⟩)] 86) ∧
      ∃ va vc, w'.heap[w.heap.size]? = some (.cells #[.slice va (L.map (cr keep)).length vc, .int .i64 (-1)] 82) ∧ w'.ownsRow (w.heap.size + 3) 91 3 (.slice va (L.map (cr keep)).length vc) (L.map (cr keep)).length (fcells (L.map (cr keep)))

/-- All of Disks behind its call of Reads. -/
noncomputable def rest6 : Code := match Tryz.f6.body with
  | some (.seq _ (.seq _ c)) => c
  | _ => .skip

set_option maxRecDepth 100000 in
set_option maxHeartbeats 8000000 in
theorem rest_wp (HPC : Hid Crashes) (v : World) (A : Nat) (sa : Option Addr) (sn sc : Nat) (T : Nat → Nat) (hsc : ActsAt v A sa sn sc T) (hA : A ≤ v.heap.size) (Ql : Exit → Act → World → Prop)
    (hr : ∀ a' v', a'.defers = [] → a'.tmps.getD 2 undef = .bool true → v.heap.size ≤ v'.heap.size → (∀ i, i < v.heap.size → v'.heap[i]? = v.heap[i]?) → Ql .ret a' v') :
    rest6.wp Tryz.prog Ql { tmps := #[.slice sa sn sc, undef, .bool false, .bool true, undef, undef, undef, undef, undef, undef, undef, undef, .agg #[.slice none 0 0, .slice none 0 0], .bool true, undef, undef, undef, undef, undef, undef, undef, undef, undef, undef, undef, undef, undef, undef, undef, undef, undef, undef, undef, undef, undef, undef, undef, undef, undef, undef, undef, undef, undef, undef, undef, undef, undef, undef, undef, undef, undef, undef, undef, undef, undef, undef, undef, undef, undef, undef, undef, undef, undef, undef, undef, undef, undef, undef, undef, undef, undef, undef, undef, undef, undef, undef, undef, undef, undef, undef, undef, undef, undef, undef, undef, undef, undef, undef, undef, undef, undef, undef, undef, undef, undef], defers := [] } v := by
  have HR := hid hr
  have HSC := hid hsc
  have hsn := hsc.1
  have HT0 := hid hsc.2.1
  obtain ⟨i0, hi0, hz0, hz1, hz2⟩ := info_parts Tryz.info40
  clear hr hsc
  simp only [rest6, Tryz.f6]
  go_wp2
  go_loopw [3, 4, 5] (fun ok l ix wr => ∃ (i : Nat) (PS : List Pt) (la : Option Addr) (lc : Nat), ok = .bool true ∧ l = .slice la PS.length lc ∧ ix = .int .i64 i ∧ i ≤ sn ∧ PS.length ≤ i ∧ Hid (Pls wr v.heap.size i (T i) PS la lc) ∧ Hid (∀ j, j < v.heap.size → wr.heap[j]? = v.heap[j]?)) (fun _ _ ix _ => sn - (intOf ix).toNat)
  case atStart => exact ⟨0, [], none, 0, rfl, rfl, rfl, Nat.zero_le _, Nat.le_refl _, (Pls.nil (Nat.le_refl _)), fun j _ => rfl⟩
  case round =>
    obtain ⟨i, PS, la, lc, rfl, rfl, rfl, hi, hPi, HPL, HOLD⟩ := hrel
    by_cases hlt : i < sn
    case neg =>
      have hltz : ¬ (i : Int) < (sn : Int) := by omega
      have HFIN : Hid (v.heap.size ≤ wr.heap.size) := HPL.out.le
      go_wp2
      exact HR.out _ _ rfl rfl HFIN.out HOLD.out
    have hltz : (i : Int) < (sn : Int) := by omega
    obtain ⟨g, o, k, a, x, s, t, hsa, hgA, hcap, k0, k1, k2, k3, k4, hra, hrx, hTs⟩ := HSC.out.2.2.2 i hlt
    have HTN := hid (HSC.out.2.2.1 (i + 1) (by omega))
    have HTS := hid hTs
    have HRA := hid hra
    have HRX := hid hrx
    subst hsa
    have hc : ∀ (j : Nat) (u : Value), v.cell? ⟨g, j, none⟩ = some u → wr.cell? ⟨g, j, none⟩ = some u := fun j u hu => (World.cell?_of_block (w := v) (a := ⟨g, j, none⟩) (HOLD.out g (by omega))).trans hu
    have k0 := hc _ _ k0
    have k1 := hc _ _ k1
    have k2 := hc _ _ k2
    have k3 := hc _ _ k3
    have k4 := hc _ _ k4
    clear hc hTs hra hrx
    obtain ⟨W1, hW1⟩ : ∃ W1, wr.alloc (.cells #[.int .i64 k, .int .i64 a, .int .i64 x, .string s, .string t] 32) = W1 := ⟨_, rfl⟩
    have HB1 : Hid (Below wr.heap.size wr W1) := by rw [← hW1]; exact below1 _ _
    have HN1 : Hid (W1.heap[wr.heap.size]? = some (.cells #[.int .i64 k, .int .i64 a, .int .i64 x, .string s, .string t] 32)) := by rw [← hW1]; exact heap_alloc_new _ _
    have hmx : PS.length ≤ 1048576 := by omega
    have o0 := cellOf (j := 0) (u := .int .i64 k) HN1.out rfl
    have o1 := cellOf (j := 1) (u := .int .i64 a) HN1.out rfl
    have HPL1 := hid (HPL.out.below HB1.out)
    have HOLD1 : Hid (∀ j, j < v.heap.size → W1.heap[j]? = v.heap[j]?) := fun j hj => (HB1.out.block j (Nat.lt_of_lt_of_le hj HPL.out.le)).trans (HOLD.out j hj)
    clear HPL HOLD HB1
    by_cases hk1 : k = 1
    · subst hk1
      go_wp2_with (first
        | (go_at_call 11; refine (pnew_any _).mono ?_; rintro e w2 ⟨rfl, hs, hd, hh, hb⟩
           obtain ⟨p, hpd, hph, hpr, hpt, hlo, hb4, hpA⟩ := plate_new hs hd hh hb (.cells #[.pointer (some ⟨W1.heap.size + 1, 0, none⟩), .pointer (some ⟨W1.heap.size + 2, 0, none⟩), .pointer (some ⟨w2.heap.size, 0, none⟩)] 40)
           have HPD := hid hpd
           have HPH := hid hph
           have HPR := hid hpr
           have HPT := hid hpt
           have HLO := hid hlo
           have HB4 := hid hb4
           have HPA := hid hpA
           have HRW := hid (ownsRow_below HPL1.out.row hb4)
           have HNN := hid (heap_alloc_new (w2.alloc (.cells #[.slice none 0 0, .int .i64 (-1)] 89)) (.cells #[.pointer (some ⟨W1.heap.size + 1, 0, none⟩), .pointer (some ⟨W1.heap.size + 2, 0, none⟩), .pointer (some ⟨w2.heap.size, 0, none⟩)] 40))
           clear hs hd hh hb hpd hph hpr hpt hlo hb4 hpA)
        | (go_at_call 12; refine (rnew_any _).mono ?_; rintro e w3 ⟨rfl, rfl⟩)
        | (at_builtin; refine wpList_append_keep _ rfl _ _ 30 rfl v.heap.size 40 i0 (.agg #[.pointer none, .pointer none, .pointer none]) 3 24 Tryz.underlying30 hi0 hz0 hz1 hz2 rfl (by decide) _ _ (pcells PS) rfl HRW.out ⟨w2.heap.size + 1, 0, none⟩ 1 1 [.pointer (some ⟨W1.heap.size + 1, 0, none⟩), .pointer (some ⟨W1.heap.size + 2, 0, none⟩), .pointer (some ⟨w2.heap.size, 0, none⟩)] rfl rfl ?hnews (by intro u hu; simp at hu; rcases hu with rfl | rfl | rfl <;> rfl) (by omega) (by unfold maxLen; omega) (by omega) ?hLs ?_))
      case hnews =>
        have h := HNN.out
        rw [show (w2.alloc (.cells #[.slice none 0 0, .int .i64 (-1)] 89)).heap.size = w2.heap.size + 1 by simp] at h
        exact World.news_of_block h
      case hLs => exact Nat.le_trans HPL1.out.le HB4.out.size
      intro V w5 hr
      obtain ⟨la', lc', hV, hpl, hold, hsz, hkeep⟩ := HPL1.out.push (p := p) HB4.out HPT.out HLO.out (by rw [HPA.out]; exact .nil) (by rw [HPD.out, HPH.out, HPR.out]; exact hr)
      have HPL5 := hid hpl
      have HOLD5 : Hid (∀ j, j < v.heap.size → w5.heap[j]? = v.heap[j]?) := fun j hj => (hold j hj).trans (HOLD1.out j hj)
      have m0 := cellOf (j := 0) (u := .int .i64 1) (hkeep _ _ _ HN1.out (by decide)) rfl
      clear hr hpl hold hsz hkeep HNN HB4 HPT HLO HPA HPD HPH HPR HRW
      generalize hn2 : (PS ++ [p]).length = n2 at *
      have HN2 : Hid (n2 = PS.length + 1) := by rw [← hn2, List.length_append]; rfl
      have HNE := hid hn2
      subst hV
      clear hn2 o0 o1
      go_wp2
      all_goals go_roundw
      all_goals try (case rel => exact ⟨i + 1, PS ++ [p], la', lc', rfl, by rw [HNE.out], by go_num, by omega, by rw [HNE.out, HN2.out]; omega, HPL5.out.mono (by omega) (by have := HTS.out; omega), HOLD5⟩)
      all_goals try (case measure => simp [intOf]; omega)
    by_cases hne : PS.length = 0
    · go_wp2
      all_goals go_roundw
      all_goals try (case rel => exact ⟨i + 1, PS, la, lc, rfl, rfl, by go_num, by omega, by omega, HPL1.out.mono (by omega) (by have := HTS.out; omega), HOLD1⟩)
      all_goals try (case measure => simp [intOf]; omega)
    obtain ⟨gl, hla, hlc, hgl, _⟩ := row_at HPL1.out.row (by omega)
    subst hla
    have hkz : ¬ k = 1 := hk1
    have H13 := hid (pick_any W1 a PS.length HRA.out.1 HRA.out.2 (by omega) (by omega))
    have hbd : T i ≤ 1048576 := by have := HTS.out; have := HTN.out; omega
    have hbt : T i + t.size ≤ 1048576 := by have := HTS.out; have := HTN.out; omega
    by_cases hk8 : k = 8
    · subst hk8
      go_wp2_with (first
      | (go_at_call 13; refine H13.out.mono ?_; rintro e w2 ⟨⟨z, hz, rfl⟩, rfl⟩
         obtain ⟨p, hp⟩ : ∃ p, PS[z]? = some p := ⟨_, List.getElem?_eq_getElem hz⟩
         obtain ⟨q0, q1, q2⟩ := pcells3 HPL1.out.row hp
         have hzz : (z : Int) < (PS.length : Int) := by omega
         obtain ⟨W2, hW2⟩ : ∃ W2, w2.alloc (.cells #[.pointer (some ⟨p.db, 0, none⟩), .pointer (some ⟨p.hb, 0, none⟩), .pointer (some ⟨p.rb, 0, none⟩)] 40) = W2 := ⟨_, rfl⟩
         have HB2 : Hid (Below w2.heap.size w2 W2) := by rw [← hW2]; exact below1 _ _
         have HP2 : Hid (W2.heap[w2.heap.size]? = some (.cells #[.pointer (some ⟨p.db, 0, none⟩), .pointer (some ⟨p.hb, 0, none⟩), .pointer (some ⟨p.rb, 0, none⟩)] 40)) := by rw [← hW2]; exact heap_alloc_new _ _
         have HO2 : Hid (W2.heap[wr.heap.size]? = some (.cells #[.int .i64 8, .int .i64 a, .int .i64 x, .string s, .string t] 32)) := (HB2.out.block _ (ltOf HN1.out)).trans HN1.out
         have y0 := cellOf (j := 0) (u := .pointer (some ⟨p.db, 0, none⟩)) HP2.out rfl
         have y1 := cellOf (j := 1) (u := .pointer (some ⟨p.hb, 0, none⟩)) HP2.out rfl
         have y2 := cellOf (j := 2) (u := .pointer (some ⟨p.rb, 0, none⟩)) HP2.out rfl
         have n0 := cellOf (j := 0) (u := .int .i64 8) HO2.out rfl
         have n1 := cellOf (j := 1) (u := .int .i64 a) HO2.out rfl
         have n2 := cellOf (j := 2) (u := .int .i64 x) HO2.out rfl
         have n3 := cellOf (j := 3) (u := .string s) HO2.out rfl
         have n4 := cellOf (j := 4) (u := .string t) HO2.out rfl
         have HPL2 := hid (HPL1.out.below HB2.out)
         have HOLD2 : Hid (∀ j, j < v.heap.size → W2.heap[j]? = v.heap[j]?) := fun j hj => (HB2.out.block j (Nat.lt_of_lt_of_le hj HPL1.out.le)).trans (HOLD1.out j hj)
         have HPP := hid (HPL2.out.each z p hp)
         have HJ := hid hp
         clear H13 HPL1 HOLD1 hp HB2)
      | (go_at_call 14; refine (HPC.out W2 p.hb p.sb p.lf x p.A p.sa p.sc HPP.out.1.h HPP.out.1.s HRX.out.1 HRX.out.2 (by have := HPP.out.2.1.1; omega) HPP.out.1.al.safe (fun f hf => by have := HPP.out.2.1.2 f hf; omega)).mono ?_; rintro e w3 ⟨rfl, hb3, hd3, hh3, va, vc, hs3, hr3⟩
         have HB3 := hid hb3
         have HD3 := hid hd3
         have HH3 := hid hh3
         have HS3 := hid hs3
         have HR3 := hid hr3
         clear y0 y1 y2 n0 n1 n2 n3 n4
         have y2 := cellOf (j := 2) (u := .pointer (some ⟨p.rb, 0, none⟩)) ((hb3.block _ (ltOf HP2.out)).trans HP2.out) rfl
         have n2 := cellOf (j := 2) (u := .int .i64 x) ((hb3.block _ (ltOf HO2.out)).trans HO2.out) rfl
         have H15 := hid (rcrash_any w3 p.rb p.lf x p.B p.ra p.rc (HPP.out.1.r.below hb3) HRX.out.1 HRX.out.2 (by have := HPP.out.2.1.1; have := HPP.out.1.al.len; omega) (fun f hf => HPP.out.1.al.safe f (HPP.out.1.al.perm.mem_iff.2 hf)) (fun f hf => by have := HPP.out.2.1.2 f (HPP.out.1.al.perm.mem_iff.2 hf); omega))
         clear hb3 hd3 hh3 hs3 hr3)
      | (go_at_call 15; refine H15.out.mono ?_; rintro e w4 ⟨rfl, hb4, va', vc', hs4, hr4⟩
         obtain ⟨q, hpd, hph, hpr, hpt, hlo, hb5, hpA⟩ := plate_crash HPP.out.1 HB3.out HD3.out HH3.out HS3.out HR3.out hb4 hs4 hr4 (.cells #[.pointer (some ⟨W2.heap.size + 1, 0, none⟩), .pointer (some ⟨W2.heap.size + 2, 0, none⟩), .pointer (some ⟨w3.heap.size, 0, none⟩)] 40)
         have HPD := hid hpd
         have HPH := hid hph
         have HPR := hid hpr
         have HPT := hid hpt
         have HLO := hid hlo
         have HB5 := hid hb5
         have HPA := hid hpA
         have HRW := hid (ownsRow_below HPL2.out.row hb5)
         have HNN := hid (heap_alloc_new w4 (.cells #[.pointer (some ⟨W2.heap.size + 1, 0, none⟩), .pointer (some ⟨W2.heap.size + 2, 0, none⟩), .pointer (some ⟨w3.heap.size, 0, none⟩)] 40))
         clear hb4 hs4 hr4 hpd hph hpr hpt hlo hb5 hpA y2 n2)
      | (at_builtin; refine wpList_append_keep _ rfl _ _ 30 rfl v.heap.size 40 i0 (.agg #[.pointer none, .pointer none, .pointer none]) 3 24 Tryz.underlying30 hi0 hz0 hz1 hz2 rfl (by decide) _ _ (pcells PS) rfl HRW.out ⟨w4.heap.size, 0, none⟩ 1 1 [.pointer (some ⟨W2.heap.size + 1, 0, none⟩), .pointer (some ⟨W2.heap.size + 2, 0, none⟩), .pointer (some ⟨w3.heap.size, 0, none⟩)] rfl rfl (World.news_of_block HNN.out) (by intro u hu; simp at hu; rcases hu with rfl | rfl | rfl <;> rfl) (by omega) (by unfold maxLen; omega) (by omega) ?hLs ?_))
      case hLs => exact Nat.le_trans HPL2.out.le HB5.out.size
      intro V w5 hr
      obtain ⟨la', lc', hV, hpl, hold, hsz, hkeep⟩ := HPL2.out.push (p := q) HB5.out HPT.out HLO.out (by rw [HPA.out]; exact HPP.out.2.1.crash x) (by rw [HPD.out, HPH.out, HPR.out]; exact hr)
      have HPL5 := hid hpl
      have HOLD5 : Hid (∀ j, j < v.heap.size → w5.heap[j]? = v.heap[j]?) := fun j hj => (hold j hj).trans (HOLD2.out j hj)
      clear hr hpl hold hsz hkeep HNN HB5 HPT HLO HPA HPD HPH HPR HRW
      generalize hn2 : (PS ++ [q]).length = nq at *
      have HN2 : Hid (nq = PS.length + 1) := by rw [← hn2, List.length_append]; rfl
      have HNE := hid hn2
      subst hV
      clear hn2 o0 o1
      go_wp2
      all_goals go_roundw
      all_goals try (case rel => exact ⟨i + 1, PS ++ [q], la', lc', rfl, by rw [HNE.out], by go_num, by omega, by rw [HNE.out, HN2.out]; omega, HPL5.out.mono (by omega) (by have := HTS.out; omega), HOLD5⟩)
      all_goals try (case measure => simp [intOf]; omega)
    · go_wp2_with (first
      | (go_at_call 13; refine H13.out.mono ?_; rintro e w2 ⟨⟨z, hz, rfl⟩, rfl⟩
         obtain ⟨p, hp⟩ : ∃ p, PS[z]? = some p := ⟨_, List.getElem?_eq_getElem hz⟩
         obtain ⟨q0, q1, q2⟩ := pcells3 HPL1.out.row hp
         have hzz : (z : Int) < (PS.length : Int) := by omega
         obtain ⟨W2, hW2⟩ : ∃ W2, w2.alloc (.cells #[.pointer (some ⟨p.db, 0, none⟩), .pointer (some ⟨p.hb, 0, none⟩), .pointer (some ⟨p.rb, 0, none⟩)] 40) = W2 := ⟨_, rfl⟩
         have HB2 : Hid (Below w2.heap.size w2 W2) := by rw [← hW2]; exact below1 _ _
         have HP2 : Hid (W2.heap[w2.heap.size]? = some (.cells #[.pointer (some ⟨p.db, 0, none⟩), .pointer (some ⟨p.hb, 0, none⟩), .pointer (some ⟨p.rb, 0, none⟩)] 40)) := by rw [← hW2]; exact heap_alloc_new _ _
         have HO2 : Hid (W2.heap[wr.heap.size]? = some (.cells #[.int .i64 k, .int .i64 a, .int .i64 x, .string s, .string t] 32)) := (HB2.out.block _ (ltOf HN1.out)).trans HN1.out
         have y0 := cellOf (j := 0) (u := .pointer (some ⟨p.db, 0, none⟩)) HP2.out rfl
         have y1 := cellOf (j := 1) (u := .pointer (some ⟨p.hb, 0, none⟩)) HP2.out rfl
         have y2 := cellOf (j := 2) (u := .pointer (some ⟨p.rb, 0, none⟩)) HP2.out rfl
         have n0 := cellOf (j := 0) (u := .int .i64 k) HO2.out rfl
         have n1 := cellOf (j := 1) (u := .int .i64 a) HO2.out rfl
         have n2 := cellOf (j := 2) (u := .int .i64 x) HO2.out rfl
         have n3 := cellOf (j := 3) (u := .string s) HO2.out rfl
         have n4 := cellOf (j := 4) (u := .string t) HO2.out rfl
         have HPL2 := hid (HPL1.out.below HB2.out)
         have HOLD2 : Hid (∀ j, j < v.heap.size → W2.heap[j]? = v.heap[j]?) := fun j hj => (HB2.out.block j (Nat.lt_of_lt_of_le hj HPL1.out.le)).trans (HOLD1.out j hj)
         have HPP := hid (HPL2.out.each z p hp)
         have HJ := hid hp
         clear H13 HPL1 HOLD1 hp HB2)
      | (go_at_call 16; refine (acted_any W2 p k a x s t i (T i) HPP.out.1 HPP.out.2.1 (by omega) hbt HRX.out.2).mono ?_; rintro e w3 ⟨rfl, p', hp', hg', hl'⟩
         obtain ⟨hpl, hold, hsz⟩ := HPL2.out.act HJ.out hp' hg' hl' (by omega) (by omega)
         have HPL5 := hid hpl
         have HOLD5 : Hid (∀ j, j < v.heap.size → w3.heap[j]? = v.heap[j]?) := fun j hj => (hold j hj).trans (HOLD2.out j hj)
         clear hpl hold hsz hp' hg' hl'))
      all_goals go_roundw
      all_goals try (case rel => exact ⟨i + 1, PS.set z p', some ⟨gl, 0, none⟩, lc, rfl, by rw [List.length_set], by go_num, by omega, by rw [List.length_set]; omega, HPL5.out.mono (by omega) HTS.out, HOLD5⟩)
      all_goals try (case measure => simp [intOf]; omega)

end Go.Proofs.YtlghcldiboecoaaGreatDoor
