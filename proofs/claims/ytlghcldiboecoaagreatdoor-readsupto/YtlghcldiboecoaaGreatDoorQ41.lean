/- The document's reader: Feed. -/
import Derived.Test.YtlghcldiboecoaaGreatDoorQ40
import Derived.Test.YtlghcldiboecoaaGreatDoorQ03
import Derived.BigRegion
set_option linter.unusedVariables false
namespace Go.Proofs.YtlghcldiboecoaaGreatDoor
open Go.RowKit

set_option maxHeartbeats 4000000 in
theorem refFeed_bad (w : World) (Rr : Nat) (av tv bv : Value) (hR : w.heap[Rr]? = some (.cells #[av, tv, .bool true] 177)) :
    Calls Tryz.prog 98 #[.pointer (some ⟨Rr, 0, none⟩), bv] w fun e w' => e = .returned (.tuple #[.slice none 0 0, .int .i64 4]) ∧ w' = w := by
  go_enter Tryz.func98, Tryz.ntmps98
  have t2 := cellOf (j := 2) hR rfl
  go_wp2
  exact bodyPost_ret (v := .tuple #[.slice none 0 0, .int .i64 4]) (by simp [results, Tryz.results98, go_sem]) rfl ⟨rfl, rfl⟩

set_option maxHeartbeats 4000000 in
theorem frames_nil (w : World) : Calls Tryz.prog 140 #[.slice none 0 0] w fun e w' => e = .returned (.tuple #[.slice none 0 0, .bool true]) ∧ w' = w := by
  go_enter Tryz.func140, Tryz.ntmps140
  go_wp2
  go_loopw [4, 5] (fun lv a wr => lv = .slice none 0 0 ∧ a = .int .i64 0 ∧ wr = w) (fun _ _ _ => 0)
  case atStart => exact ⟨rfl, rfl, rfl⟩
  case round =>
    obtain ⟨rfl, rfl, rfl⟩ := hrel
    go_wp2
    exact bodyPost_ret (v := .tuple #[.slice none 0 0, .bool true]) (by simp [results, Tryz.results140, go_sem]) rfl ⟨rfl, rfl⟩

/-- A list of bodies: in a row q; each of them bytes that lie somewhere. -/
def BodyAt (w : World) (la : Option Addr) (i : Nat) (b : List UInt8) (lo : Nat) : Prop := ∃ q o B off c, la = some ⟨q, o, none⟩ ∧ lo ≤ q ∧ w.cell? ⟨q, o + i, none⟩ = some (.slice (some ⟨B, off, none⟩) b.length c) ∧ Bytes w B off b

def ListAt (w : World) (la : Option Addr) (bodies : List (List UInt8)) (lo : Nat) : Prop := ∀ i (h : i < bodies.length), BodyAt w la i bodies[i] lo

/-- What Frames leaves, of a list that may be nil. -/
def FrOut (w : World) (l : List UInt8) (e : Ending) (w' : World) : Prop := ∃ la lc, e = .returned (.tuple #[.slice la (rf l.length l).1.length lc, .bool (rf l.length l).2]) ∧ Below w.heap.size w w' ∧ (rf l.length l).1.length ≤ lc ∧ lc ≤ 9223372036854775807 ∧ (la = none → lc = 0) ∧ (∀ a, la = some a → a.off = 0 ∧ a.spot = none) ∧ ListAt w' la (rf l.length l).1 w.heap.size

theorem frames_own (w : World) (pv : Value) (l : List UInt8) (h : w.ownsRow 0 5 1 pv l.length (bcells l)) (hl : l.length ≤ 2000000) : Calls Tryz.prog 140 #[pv] w (FrOut w l) := by
  rcases h.2 with ⟨rfl, h0⟩ | ⟨g, cap, cur, rfl, _, hg, hnc, hcm, hcs, htk⟩
  · refine (frames_nil w).mono ?_
    rintro e w' ⟨rfl, rfl⟩
    have hr : rf l.length l = ([], true) := rf_short (by omega)
    exact ⟨none, 0, by rw [hr]; rfl, Below.refl _ _, by rw [hr]; simp, by omega, fun _ => rfl, (fun a h => by cases h), by rw [hr]; intro i hi; simp at hi⟩
  · have hby : Bytes w g 0 l := fun i hi => by
      rw [Nat.zero_add]
      have h1 := h.cellAt i (by omega)
      rw [h1]
      simp [bcells, hi]
    refine (frames_any w g cap l hby (Array.getElem?_eq_some_iff.1 hg).1 hnc hcm hl).mono ?_
    rintro e w' ⟨xs, lv, rfl, hxs, hlie, hown, hbel⟩
    have hlen : (rf l.length l).1.length = xs.length := by rw [← hxs]; simp
    have hbody : ∀ i (hi : i < xs.length), (rf l.length l).1[i]'(by omega) = xs[i].2 := fun i hi => by simp [← hxs]
    obtain ⟨la, lc, hlv, h1, h2, h3, h4, h5⟩ : ∃ la lc, lv = .slice la xs.length lc ∧ xs.length ≤ lc ∧ lc ≤ 9223372036854775807 ∧ (la = none → lc = 0) ∧ (∀ a, la = some a → a.off = 0 ∧ a.spot = none) ∧ ∀ i (hi : i < xs.length), ∃ q, la = some ⟨q, 0, none⟩ ∧ w.heap.size ≤ q ∧ w'.cell? ⟨q, 0 + i, none⟩ = some (bodyV g cap xs[i]) := by
      rcases hown.2 with ⟨rfl, h0⟩ | ⟨q, qc, qcur, rfl, hq0, hq, hqn, hqm, hqs, hqt⟩
      · exact ⟨none, 0, by rw [h0], by omega, by omega, fun _ => rfl, (fun a h => by cases h), fun i hi => by omega⟩
      · refine ⟨_, qc, rfl, hqn, by unfold maxLen at hqm; omega, (fun h => by cases h), (fun a h => by cases h; exact ⟨rfl, rfl⟩), fun i hi => ⟨q, rfl, hq0, ?_⟩⟩
        rw [Nat.zero_add, hown.cellAt i (by omega)]
        simp [hi]
    subst hlv
    refine ⟨la, lc, by rw [hlen], hbel, by omega, h2, h3, h4, fun i hi => ?_⟩
    have hi' : i < xs.length := by omega
    obtain ⟨q, e1, e2, e3⟩ := h5 i hi'
    obtain ⟨l1, l2⟩ := hlie xs[i] (List.getElem_mem _)
    rw [hbody i hi']
    refine ⟨q, 0, g, if cap = xs[i].1 then 0 else xs[i].1, cap - xs[i].1, e1, e2, e3, ?_⟩
    intro j hj
    rw [if_neg (by omega)]
    have hk := hby (xs[i].1 + j) (by omega)
    rw [Nat.zero_add] at hk
    rw [World.cell?_of_block (w := w) (hbel.block g (Array.getElem?_eq_some_iff.1 hg).1), hk]
    have : xs[i].2[j] = l[xs[i].1 + j]'(by omega) := by
      have e : xs[i].2[j]? = ((l.drop xs[i].1).take xs[i].2.length)[j]? := by rw [← l2]
      rw [List.getElem?_take, if_pos hj, List.getElem?_drop, List.getElem?_eq_getElem hj, List.getElem?_eq_getElem (by omega)] at e
      exact Option.some.inj e
    rw [this]

theorem bytes_other {w w' : World} {R B off : Nat} {a : Option Addr} {n c : Nat} {t : Int} {x : Bool} {b : List UInt8} (h : Bytes w B off b) (hR : w.heap[R]? = some (.cells #[.slice a n c, .int .i64 t, .bool x] 177)) (hk : ∀ k, k ≠ R → w'.heap[k]? = w.heap[k]?) : Bytes w' B off b := by
  intro j hj
  have h1 := h j hj
  have hne : B ≠ R := fun e => by
    subst e
    unfold World.cell? at h1
    rw [hR] at h1
    simp only [Option.isSome_none, Bool.false_eq_true, if_false] at h1
    rcases Nat.lt_or_ge (off + j) 3 with h3 | h3
    · obtain h4 | h4 | h4 : off + j = 0 ∨ off + j = 1 ∨ off + j = 2 := by omega
      all_goals (rw [h4] at h1; simp at h1)
    · rw [Array.getElem?_eq_none (by simpa using h3)] at h1
      cases h1
  rw [World.cell?_of_block (w := w) (hk B hne)]
  exact h1

/-- What Feed leaves. -/
def FdRes (w : World) (Rr : Nat) (av : Value) (l : List UInt8) (told : Nat) (e : Ending) (w' : World) : Prop := ∃ v' la lc, e = .returned (.tuple #[.slice la ((rf l.length l).1.length - told) lc, .int .i64 (if (rf l.length l).2 then 0 else 4)]) ∧
  w'.heap[Rr]? = some (.cells #[v', .int .i64 ((rf l.length l).1.length : Nat), .bool (!(rf l.length l).2)] 177) ∧ w'.ownsRow 0 5 1 v' l.length (bcells l) ∧ v'.ownBlock ≠ some Rr ∧ (v'.ownBlock = av.ownBlock ∨ v'.ownBlock = some w.heap.size) ∧ ListAt w' la ((rf l.length l).1.drop told) w.heap.size ∧
  (∀ i, i < w.heap.size → i ≠ Rr → av.ownBlock ≠ some i → w'.heap[i]? = w.heap[i]?) ∧ w.heap.size ≤ w'.heap.size ∧ w'.os = w.os ∧ w'.output = w.output

theorem listAt_drop {w : World} {la : Option Addr} {bodies : List (List UInt8)} {lo k : Nat} (h : ListAt w la bodies lo) : ListAt w (la.map fun a => { a with off := a.off + k }) (bodies.drop k) lo := by
  intro i hi
  rw [List.length_drop] at hi
  obtain ⟨q, o, B, off, c, rfl, h1, h2, h3⟩ := h (k + i) (by omega)
  refine ⟨q, o + k, B, off, c, rfl, h1, ?_, ?_⟩
  · rw [show o + k + i = o + (k + i) by omega, h2]; simp
  · simpa using h3

set_option maxRecDepth 10000 in
set_option maxHeartbeats 4000000 in
theorem refFeed_any (w : World) (Rr g bc told : Nat) (av : Value) (all bs : List UInt8) (hR : w.heap[Rr]? = some (.cells #[av, .int .i64 told, .bool false] 177)) (hA : w.ownsRow 0 5 1 av all.length (bcells all)) (hb : Bytes w g 0 bs)
    (hlen : all.length + bs.length ≤ 1500000) (hAR : av.ownBlock ≠ some Rr) (htold : told ≤ (rf (all ++ bs).length (all ++ bs)).1.length) :
    Calls Tryz.prog 98 #[.pointer (some ⟨Rr, 0, none⟩), .slice (some ⟨g, 0, none⟩) bs.length bc] w fun e w' => FdRes w Rr av (all ++ bs) told e w' := by
  go_enter Tryz.func98, Tryz.ntmps98
  have t0 := cellOf (j := 0) hR rfl
  have t1 := cellOf (j := 1) hR rfl
  have t2 := cellOf (j := 2) hR rfl
  have hRlt := (Array.getElem?_eq_some_iff.1 hR).1
  obtain ⟨i0, hi0, hz0, hz1, hz2⟩ := info_parts Tryz.info5
  have HA := hide hA
  have HB := hide hb
  obtain ⟨qa, qc, hqv⟩ : ∃ a c, av = .slice a all.length c := by
    rcases hA.2 with ⟨e, h⟩ | ⟨g, cap, cur, e, _⟩
    · exact ⟨none, 0, by rw [e, h]⟩
    · exact ⟨_, _, e⟩
  subst hqv
  clear hA hb
  go_wp2_with (at_builtin; refine wpList_append_own_at _ rfl _ _ 57 rfl 0 5 i0 (.int .u8 0) 1 1 Tryz.underlying57 hi0 hz0 hz1 hz2 rfl (by decide) _ _ _ rfl HA.out ⟨g, 0, none⟩ bs.length bc (bcells bs) rfl ?hl ?hn ?h1 ?c3 ?c4 ?c5 ?_)
  case hl => simp [bcells]
  case hn =>
    intro j u hj
    have hj' : j < bs.length := by have := (List.getElem?_eq_some_iff.1 hj).1; simpa [bcells] using this
    have h1 := HB.out j hj'
    rw [Nat.zero_add] at h1
    have h2 : u = .int .u8 bs[j].toNat := by simp [bcells, hj'] at hj; exact hj.symm
    rw [h2, ← h1]
    cases j <;> simp [Addr.add]
  case h1 => intro u hu; simp [bcells] at hu; obtain ⟨x, _, rfl⟩ := hu; rfl
  case c3 => unfold maxLen; omega
  case c4 => omega
  case c5 => omega
  intro v' w1 hown hgrow _ hwhere
  obtain ⟨pa, pc, hpv⟩ : ∃ a c, v' = .slice a (all.length + bs.length) c := by
    rcases hown.2 with ⟨e, h⟩ | ⟨g, cap, cur, e, _⟩
    · exact ⟨none, 0, by rw [e, h]⟩
    · exact ⟨_, _, e⟩
  subst hpv
  have hne : some Rr ≠ (Value.slice qa all.length qc).ownBlock := fun h => hAR h.symm
  have hR1 : w1.heap[Rr]? = some (.cells #[.slice qa all.length qc, .int .i64 told, .bool false] 177) := (hgrow.block Rr hRlt hne).trans hR
  have s0 := cellOf (j := 0) hR1 rfl
  have f0 := frozenOf (j := 0) hR1
  have hR2 := heap_setCell_same w1 Rr 0 _ 177 (.slice pa (all.length + bs.length) pc) hR1
  have hO2 : (w1.setCell ⟨Rr, 0, none⟩ (.slice pa (all.length + bs.length) pc)).ownsRow 0 5 1 (.slice pa (all.length + bs.length) pc) (all.length + bs.length) (bcells all ++ bcells bs) := by
    refine ⟨hown.1, hown.2.imp id ?_⟩
    rintro ⟨g', cap, cur, e, h0, hg', h1, h2, h3, h4⟩
    refine ⟨g', cap, cur, e, h0, ?_, h1, h2, h3, h4⟩
    have : g' ≠ Rr := fun h => by rw [h, hR1] at hg'; simp at hg'
    rw [Below.heap_setCell _ _ _ _ this]
    exact hg'
  have hR2' : (w1.setCell ⟨Rr, 0, none⟩ (.slice pa (all.length + bs.length) pc)).heap[Rr]? = some (.cells #[.slice pa (all.length + bs.length) pc, .int .i64 told, .bool false] 177) := by simpa using hR2
  have hcat : bcells all ++ bcells bs = bcells (all ++ bs) := by simp [bcells]
  have hlcat : (all ++ bs).length = all.length + bs.length := by simp
  have hO2' : (w1.setCell ⟨Rr, 0, none⟩ (.slice pa (all.length + bs.length) pc)).ownsRow 0 5 1 (.slice pa (all.length + bs.length) pc) (all ++ bs).length (bcells (all ++ bs)) := by rw [← hcat, hlcat]; exact hO2
  have hFR := frames_own _ _ (all ++ bs) hO2' (by omega)
  have HFR := hide hFR
  have HO2 := hide hO2'
  have HR2 := hide hR2'
  have HT := hide htold
  have HS1 := hide hgrow.size
  have HAR := hide hAR
  have hpne : (Value.slice pa (all.length + bs.length) pc).ownBlock ≠ some Rr := by
    rcases hO2'.2 with ⟨e, _⟩ | ⟨g', cap, cur, e, _, hg', _⟩
    · rw [e]; simp [Value.ownBlock]
    · rw [e]
      intro h
      simp [Value.ownBlock] at h
      rw [h, hR2'] at hg'
      simp at hg'
  have HPNE := hide hpne
  have HWH := hide hwhere
  clear hwhere
  have HKEEP : Hid (∀ i, i < w.heap.size → i ≠ Rr → (Value.slice qa all.length qc).ownBlock ≠ some i → (w1.setCell ⟨Rr, 0, none⟩ (.slice pa (all.length + bs.length) pc)).heap[i]? = w.heap[i]?) := fun i hi hne' hav => by
    rw [Below.heap_setCell _ _ _ _ hne']
    exact hgrow.block i hi (fun h => hav h.symm)
  have HSZ : Hid (w.heap.size ≤ (w1.setCell ⟨Rr, 0, none⟩ (.slice pa (all.length + bs.length) pc)).heap.size) := by show _ ≤ _; simpa [World.setCell] using hgrow.size
  have HOS : Hid ((w1.setCell ⟨Rr, 0, none⟩ (.slice pa (all.length + bs.length) pc)).os = w.os ∧ (w1.setCell ⟨Rr, 0, none⟩ (.slice pa (all.length + bs.length) pc)).output = w.output) := ⟨hgrow.os, hgrow.output⟩
  clear hR2' hO2' hFR hcat hlcat htold hpne hAR
  have HG := hide hgrow
  have HR1 := hide hR1
  clear hR2 hO2 hown hgrow hR1 hR t0 t1 t2 HB HA hne HR1 HG HS1
  go_wp2_with fail
  clear s0 f0
  generalize w1.setCell ⟨Rr, 0, none⟩ (.slice pa (all.length + bs.length) pc) = w2 at *
  refine HFR.out.mono ?_
  rintro e w3 ⟨la, lc, rfl, hb3, hl1, hl2, hl3, hl4, hli⟩
  have hRlt2 : Rr < w2.heap.size := (Array.getElem?_eq_some_iff.1 HR2.out).1
  have hR3 : w3.heap[Rr]? = some (.cells #[.slice pa (all.length + bs.length) pc, .int .i64 told, .bool false] 177) := (hb3.block Rr hRlt2).trans HR2.out
  have t1 := cellOf (j := 1) hR3 rfl
  have f1 := frozenOf (j := 1) hR3
  have hR4 := heap_setCell_same w3 Rr 1 _ 177 (.int .i64 ((rf (all ++ bs).length (all ++ bs)).1.length : Nat)) hR3
  have fin : ∀ w', (∀ k, k ≠ Rr → w'.heap[k]? = w3.heap[k]?) → w'.heap.size = w3.heap.size → w'.os = w3.os → w'.output = w3.output →
      w'.heap[Rr]? = some (.cells #[.slice pa (all.length + bs.length) pc, .int .i64 ((rf (all ++ bs).length (all ++ bs)).1.length : Nat), .bool (!(rf (all ++ bs).length (all ++ bs)).2)] 177) → ∀ (la' : Option Addr) (lc' : Nat), ListAt w3 la' ((rf (all ++ bs).length (all ++ bs)).1.drop told) w2.heap.size →
      FdRes w Rr (.slice qa all.length qc) (all ++ bs) told (.returned (.tuple #[.slice la' ((rf (all ++ bs).length (all ++ bs)).1.length - told) lc', .int .i64 (if (rf (all ++ bs).length (all ++ bs)).2 then 0 else 4)])) w' := by
    intro w' hk hsz hos hou hRn la' lc' hla
    refine ⟨_, la', lc', rfl, hRn, ?_, HPNE.out, ?_, ?_, ?_, ?_, ?_, ?_⟩
    · refine ⟨HO2.out.1, HO2.out.2.imp id ?_⟩
      rintro ⟨g', cap, cur, e, h0, hg', h1⟩
      have hne : g' ≠ Rr := fun h => by rw [h, HR2.out] at hg'; simp at hg'
      exact ⟨g', cap, cur, e, h0, by rw [hk g' hne, hb3.block g' (Array.getElem?_eq_some_iff.1 hg').1]; exact hg', h1⟩
    · exact HWH.out
    · intro i hi
      obtain ⟨q, o, B, off, c, h1, h2, h3, h4⟩ := hla i hi
      refine ⟨q, o, B, off, c, h1, Nat.le_trans HSZ.out h2, ?_, bytes_other h4 hR3 hk⟩
      rw [World.cell?_of_block (w := w3) (hk q (by omega))]
      exact h3
    · intro i hi hne hav
      rw [hk i hne, hb3.block i (Nat.lt_of_lt_of_le hi HSZ.out)]
      exact HKEEP.out i hi hne hav
    · have := hb3.size
      have := HSZ.out
      omega
    · rw [hos, hb3.os]; exact HOS.out.1
    · rw [hou, hb3.output]; exact HOS.out.2
  have FIN := hide fin
  have HLI := hide hli
  have HR4 := hide hR4
  have HR3 := hide hR3
  clear fin hli hR4 hR3 HFR HO2 HR2 HPNE HKEEP HOS
  generalize rf (all ++ bs).length (all ++ bs) = r at *
  obtain ⟨bodies, ok⟩ := r
  try dsimp only at *
  have hT : told ≤ bodies.length := HT.out
  clear HT
  cases ok with
  | true =>
    have HK : Hid (∀ k, k ≠ Rr → (w3.setCell ⟨Rr, 1, none⟩ (.int .i64 (bodies.length : Nat))).heap[k]? = w3.heap[k]?) := fun k hk => by rw [Below.heap_setCell _ _ _ _ hk]
    have HSZ5 : Hid ((w3.setCell ⟨Rr, 1, none⟩ (.int .i64 (bodies.length : Nat))).heap.size = w3.heap.size) := by show _ = _; simp [World.setCell]
    have HR5 : Hid ((w3.setCell ⟨Rr, 1, none⟩ (.int .i64 (bodies.length : Nat))).heap[Rr]? = some (.cells #[.slice pa (all.length + bs.length) pc, .int .i64 (bodies.length : Nat), .bool (!true)] 177)) := by
      show _ = _
      simpa using HR4.out
    skip
    skip
    skip
    skip
    clear HR4 HR3
    cases la with
    | none =>
      obtain rfl : lc = 0 := hl3 rfl
      have h0 : bodies.length = 0 := by omega
      have h1 : told = 0 := by omega
      subst h1
      have HE : Hid (ListAt w3 none (bodies.drop 0) w2.heap.size) := fun i hi => by simp at hi; omega
      clear h0 hl1 hl2 hl3 hl4 hT
      go_wp2_with fail
      exact bodyPost_ret (v := .tuple #[.slice none bodies.length 0, .int .i64 0]) (by simp [results, Tryz.results98, go_sem]) rfl (FIN.out _ HK.out HSZ5.out rfl rfl HR5.out _ _ HE.out)
    | some ad =>
      obtain ⟨ha1, ha2⟩ := hl4 ad rfl
      obtain ⟨q, ao, asp⟩ := ad
      simp only at ha1 ha2
      subst ha1 ha2
      have hadd : (⟨q, 0, none⟩ : Addr).add told = ⟨q, told, none⟩ := by cases told <;> simp [Addr.add]
      clear hl3 hl4
      by_cases hce : lc = told
      · have HE : Hid (ListAt w3 (some ⟨q, 0, none⟩) (bodies.drop told) w2.heap.size) := fun i hi => by rw [List.length_drop] at hi; omega
        subst hce
        go_wp2_with fail
        have FI := FIN.out _ HK.out HSZ5.out rfl rfl HR5.out _ 0 HE.out
        rw [show bodies.length - lc = 0 by omega] at FI
        exact bodyPost_ret (v := .tuple #[.slice (some ⟨q, 0, none⟩) 0 0, .int .i64 0]) (by simp [results, Tryz.results98, go_sem]) rfl FI
      · have hce0 : ¬ lc - told = 0 := by omega
        have HDR : Hid (ListAt w3 (some ⟨q, told, none⟩) (bodies.drop told) w2.heap.size) := by
          have h := listAt_drop (k := told) HLI.out
          show ListAt _ _ _ _
          simpa using h
        go_wp2_with fail
        exact bodyPost_ret (v := .tuple #[.slice (some ⟨q, told, none⟩) (bodies.length - told) (lc - told), .int .i64 0]) (by simp [results, Tryz.results98, go_sem]) rfl (FIN.out _ HK.out HSZ5.out rfl rfl HR5.out _ _ HDR.out)
  | false =>
    have HK : Hid (∀ k, k ≠ Rr → ((w3.setCell ⟨Rr, 1, none⟩ (.int .i64 (bodies.length : Nat))).setCell ⟨Rr, 2, none⟩ (.bool true)).heap[k]? = w3.heap[k]?) := fun k hk => by rw [Below.heap_setCell _ _ _ _ hk, Below.heap_setCell _ _ _ _ hk]
    have HSZ5 : Hid (((w3.setCell ⟨Rr, 1, none⟩ (.int .i64 (bodies.length : Nat))).setCell ⟨Rr, 2, none⟩ (.bool true)).heap.size = w3.heap.size) := by show _ = _; simp [World.setCell]
    have HR5 : Hid (((w3.setCell ⟨Rr, 1, none⟩ (.int .i64 (bodies.length : Nat))).setCell ⟨Rr, 2, none⟩ (.bool true)).heap[Rr]? = some (.cells #[.slice pa (all.length + bs.length) pc, .int .i64 (bodies.length : Nat), .bool (!false)] 177)) := by
      show _ = _
      have h5 := heap_setCell_same _ Rr 2 _ 177 (.bool true) HR4.out
      simpa using h5
    have hR4' : (w3.setCell ⟨Rr, 1, none⟩ (.int .i64 (bodies.length : Nat))).heap[Rr]? = some (.cells #[.slice pa (all.length + bs.length) pc, .int .i64 (bodies.length : Nat), .bool false] 177) := by simpa using HR4.out
    have s2 := cellOf (j := 2) hR4' rfl
    have f2 := frozenOf (j := 2) hR4'
    clear hR4'
    clear HR4 HR3
    cases la with
    | none =>
      obtain rfl : lc = 0 := hl3 rfl
      have h0 : bodies.length = 0 := by omega
      have h1 : told = 0 := by omega
      subst h1
      have HE : Hid (ListAt w3 none (bodies.drop 0) w2.heap.size) := fun i hi => by simp at hi; omega
      clear h0 hl1 hl2 hl3 hl4 hT
      go_wp2_with fail
      exact bodyPost_ret (v := .tuple #[.slice none bodies.length 0, .int .i64 4]) (by simp [results, Tryz.results98, go_sem]) rfl (FIN.out _ HK.out HSZ5.out rfl rfl HR5.out _ _ HE.out)
    | some ad =>
      obtain ⟨ha1, ha2⟩ := hl4 ad rfl
      obtain ⟨q, ao, asp⟩ := ad
      simp only at ha1 ha2
      subst ha1 ha2
      have hadd : (⟨q, 0, none⟩ : Addr).add told = ⟨q, told, none⟩ := by cases told <;> simp [Addr.add]
      clear hl3 hl4
      by_cases hce : lc = told
      · have HE : Hid (ListAt w3 (some ⟨q, 0, none⟩) (bodies.drop told) w2.heap.size) := fun i hi => by rw [List.length_drop] at hi; omega
        subst hce
        go_wp2_with fail
        have FI := FIN.out _ HK.out HSZ5.out rfl rfl HR5.out _ 0 HE.out
        rw [show bodies.length - lc = 0 by omega] at FI
        exact bodyPost_ret (v := .tuple #[.slice (some ⟨q, 0, none⟩) 0 0, .int .i64 4]) (by simp [results, Tryz.results98, go_sem]) rfl FI
      · have hce0 : ¬ lc - told = 0 := by omega
        have HDR : Hid (ListAt w3 (some ⟨q, told, none⟩) (bodies.drop told) w2.heap.size) := by
          have h := listAt_drop (k := told) HLI.out
          show ListAt _ _ _ _
          simpa using h
        go_wp2_with fail
        exact bodyPost_ret (v := .tuple #[.slice (some ⟨q, told, none⟩) (bodies.length - told) (lc - told), .int .i64 4]) (by simp [results, Tryz.results98, go_sem]) rfl (FIN.out _ HK.out HSZ5.out rfl rfl HR5.out _ _ HDR.out)

end Go.Proofs.YtlghcldiboecoaaGreatDoor

/- The caller: are the bodies the same? -/
set_option linter.unusedVariables false
namespace Go.Proofs.YtlghcldiboecoaaGreatDoor
open Go.RowKit

theorem conv_bytes {w : World} {B off c : Nat} {b : List UInt8} (h : Bytes w B off b) : (convert 57 9 (.slice (some ⟨B, off, none⟩) b.length c)).run Tryz.prog w = .ok (.string ⟨b.toArray⟩) w := by
  have hstr : strOfNums (b.map fun c => (c.toNat : Int)) = (⟨b.toArray⟩ : ByteArray) := by
    unfold strOfNums
    congr 2
    rw [List.map_map]
    conv => rhs; rw [← List.map_id b]
    apply List.map_congr_left
    intro c _
    simp
  have := run_convert_bytes_arg (P := Tryz.prog) w 57 5 Tryz.underlying57 Tryz.underlying5 B off b.length c (b.map fun c => (c.toNat : Int)) (by simp) (fun i hi => by
    rw [h i hi, List.getD_eq_getElem?_getD, List.getElem?_map, List.getElem?_eq_getElem hi]
    rfl) 9 Tryz.underlying9
  rw [hstr] at this
  exact this

theorem cell_blk {w : World} {a : Addr} {x : Value} (h : w.cell? a = some x) : a.block < w.heap.size := by
  unfold World.cell? at h
  cases hb : w.heap[a.block]? with
  | none => rw [hb] at h; cases h
  | some o => exact (Array.getElem?_eq_some_iff.1 hb).1

theorem bytes_below {w w' : World} {B off : Nat} {b : List UInt8} (h : Bytes w B off b) (hb : Below w.heap.size w w') : Bytes w' B off b := fun j hj => by
  have h1 := h j hj
  rw [World.cell?_of_block (w := w) (hb.block B (cell_blk h1))]
  exact h1

theorem listAt_below {w w' : World} {la : Option Addr} {bodies : List (List UInt8)} {lo : Nat} (h : ListAt w la bodies lo) (hb : Below w.heap.size w w') : ListAt w' la bodies lo := fun i hi => by
  obtain ⟨q, o, B, off, c, h1, h2, h3, h4⟩ := h i hi
  refine ⟨q, o, B, off, c, h1, h2, ?_, bytes_below h4 hb⟩
  rw [World.cell?_of_block (w := w) (hb.block q (cell_blk h3))]
  exact h3

set_option maxRecDepth 10000 in
set_option maxHeartbeats 4000000 in
theorem sameBodies_any (w : World) (la lb : Option Addr) (ca cb lo lo' : Nat) (bodies : List (List UInt8)) (ha : ListAt w la bodies lo) (hb : ListAt w lb bodies lo') (hn : bodies.length ≤ 4294967296) :
    Calls Tryz.prog 99 #[.slice la bodies.length ca, .slice lb bodies.length cb] w fun e w' => e = .returned (.bool true) ∧ Below w.heap.size w w' := by
  go_enter Tryz.func99, Tryz.ntmps99
  have HA := hide ha
  have HB := hide hb
  clear ha hb
  go_wp2
  go_loopw [5] (fun i wr => ∃ k : Nat, k ≤ bodies.length ∧ i = .int .i64 k ∧ Hid (Below w.heap.size w wr)) (fun i _ => bodies.length - (intOf i).toNat)
  case atStart => exact ⟨0, Nat.zero_le _, rfl, Below.refl _ _⟩
  case round =>
    obtain ⟨k, hk, rfl, HW⟩ := hrel
    by_cases hlt : k < bodies.length
    · have hltz : (k : Int) < (bodies.length : Int) := by omega
      obtain ⟨q, o, B, off, c, rfl, _, h3, h4⟩ := listAt_below HA.out HW.out k hlt
      obtain ⟨q', o', B', off', c', rfl, _, h3', h4'⟩ := listAt_below HB.out HW.out k hlt
      have c1 := conv_bytes (c := c) h4
      have c2 := conv_bytes (c := c') h4'
      have d1 := conv_bytes (w := wr.drew) (c := c) h4
      have d2 := conv_bytes (w := wr.drew) (c := c') h4'
      have a1 : (⟨q, o, none⟩ : Addr).add k = ⟨q, o + k, none⟩ := by cases k <;> simp [Addr.add]
      have a2 : (⟨q', o', none⟩ : Addr).add k = ⟨q', o' + k, none⟩ := by cases k <;> simp [Addr.add]
      have HW2 : Hid (Below w.heap.size w wr.drew) := HW.out.drew
      clear h4 h4'
      generalize bodies[k] = b at *
      go_wp2
      go_region
      go_wp2
      go_roundw
      case rel => exact ⟨k + 1, by omega, by go_num, HW2⟩
      case measure => first | (simp [intOf]; done) | (simp [intOf]; omega)
    · have hltz : ¬ (k : Int) < (bodies.length : Int) := by omega
      go_wp2
      go_ret
      exact ⟨rfl, HW.out⟩

end Go.Proofs.YtlghcldiboecoaaGreatDoor

/- A reader is made. -/
set_option linter.unusedVariables false
namespace Go.Proofs.YtlghcldiboecoaaGreatDoor
open Go.RowKit

theorem newReader_any (w : World) : Calls Tryz.prog 96 #[] w fun e w' => e = .returned (.pointer (some ⟨w.heap.size, 0, none⟩)) ∧ w' = w.alloc (.cells #[.slice none 0 0, .bool false] 237) := by
  go_enter Tryz.func96, Tryz.ntmps96
  go_wp2
  go_ret
  exact ⟨rfl, rfl⟩

end Go.Proofs.YtlghcldiboecoaaGreatDoor

/- The document's Frame. -/
set_option linter.unusedVariables false
namespace Go.Proofs.YtlghcldiboecoaaGreatDoor
open Go.RowKit

set_option maxHeartbeats 4000000 in
theorem refFrame_long (w : World) (g c : Nat) (bs : List UInt8) (hl : 1000 < bs.length) (hm : bs.length ≤ 4000000) :
    Calls Tryz.prog 94 #[.slice (some ⟨g, 0, none⟩) bs.length c] w fun e w' => e = .returned (.tuple #[.slice none 0 0, .int .i64 4]) ∧ w' = w := by
  go_enter Tryz.func94, Tryz.ntmps94
  have hz : (1000 : Int) < (bs.length : Int) := by omega
  go_wp2
  exact bodyPost_ret (v := .tuple #[.slice none 0 0, .int .i64 4]) (by simp [results, Tryz.results94, go_sem]) rfl ⟨rfl, rfl⟩

set_option maxRecDepth 10000 in
set_option maxHeartbeats 4000000 in
theorem refFrame_any (w : World) (g c : Nat) (bs : List UInt8) (hb : Bytes w g 0 bs) (hg : g < w.heap.size) (hl : bs.length ≤ 1000) :
    Calls Tryz.prog 94 #[.slice (some ⟨g, 0, none⟩) bs.length c] w fun e w' => ∃ v', e = .returned (.tuple #[v', .int .i64 0]) ∧ w'.ownsRow w.heap.size 5 1 v' (Orch.be bs.length 4 ++ bs).length (bcells (Orch.be bs.length 4 ++ bs)) ∧ Below w.heap.size w w' := by
  have hby := bytesOf_any w bs.length (by omega) (by omega) 4 (by omega) (by omega)
  have HBY : Hid (Calls Tryz.prog 78 #[.int .i64 bs.length, .int .i64 4] w fun e w' => (∃ ov, e = .returned ov ∧ w'.ownsRow w.heap.size 5 1 ov 4 (bcells (Orch.be bs.length 4))) ∧ Below w.heap.size w w') := hby
  have HB := hide hb
  clear hby hb
  go_enter Tryz.func94, Tryz.ntmps94
  have hz : ¬ (1000 : Int) < (bs.length : Int) := by omega
  obtain ⟨i0, hi0, hz0, hz1, hz2⟩ := info_parts Tryz.info5
  go_wp2_with fail
  refine HBY.out.mono ?_
  rintro e w1 ⟨⟨ov, rfl, hown⟩, hbel⟩
  obtain ⟨qa, qc, hqv⟩ : ∃ a c, ov = .slice a 4 c := by
    rcases hown.2 with ⟨e, h⟩ | ⟨g, cap, cur, e, _⟩
    · omega
    · exact ⟨_, _, e⟩
  subst hqv
  have HO := hide hown
  have HW := hide hbel
  have hby1 := bytes_below HB.out hbel
  have HB1 := hide hby1
  have hs1 := hbel.size
  clear hown hbel hby1 HBY
  go_wp2_with (at_builtin; refine wpList_append_own _ rfl _ _ 57 rfl w.heap.size 5 i0 (.int .u8 0) 1 1 Tryz.underlying57 hi0 hz0 hz1 hz2 rfl (by decide) _ _ _ rfl HO.out ⟨g, 0, none⟩ bs.length c (bcells bs) rfl ?hl ?hn ?h1 ?c3 ?c4 ?c5 ?_)
  case hl => simp [bcells]
  case hn =>
    intro j u hj
    have hj' : j < bs.length := by have := (List.getElem?_eq_some_iff.1 hj).1; simpa [bcells] using this
    have h1 := HB1.out j hj'
    rw [Nat.zero_add] at h1
    have h2 : u = .int .u8 bs[j].toNat := by simp [bcells, hj'] at hj; exact hj.symm
    rw [h2, ← h1]
    cases j <;> simp [Addr.add]
  case h1 => intro u hu; simp [bcells] at hu; obtain ⟨x, _, rfl⟩ := hu; rfl
  case c3 => unfold maxLen; omega
  case c4 => omega
  case c5 => omega
  intro v' w2 hown hgrow _
  have hlen : (Orch.be bs.length 4 ++ bs).length = 4 + bs.length := by rw [List.length_append, Orch.be_length]
  have hcat : bcells (Orch.be bs.length 4 ++ bs) = bcells (Orch.be bs.length 4) ++ bcells bs := by simp [bcells]
  have HO2 : Hid (w2.ownsRow w.heap.size 5 1 v' (Orch.be bs.length 4 ++ bs).length (bcells (Orch.be bs.length 4 ++ bs))) := by show World.ownsRow _ _ _ _ _ _ _; rw [hlen, hcat]; exact hown
  have HB2 : Hid (Below w.heap.size w w2) := HW.out.grown hgrow hs1 (fun j hj => (HO.out.lt j hj).1)
  clear hown hgrow hlen hcat
  go_wp2
  exact bodyPost_ret (v := .tuple #[v', .int .i64 0]) (by simp [results, Tryz.results94, go_sem]) rfl ⟨v', rfl, HO2.out, HB2.out⟩

end Go.Proofs.YtlghcldiboecoaaGreatDoor
