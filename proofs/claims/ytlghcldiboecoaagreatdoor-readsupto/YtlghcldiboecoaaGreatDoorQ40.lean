/- The document's reader: the frames that bytes begin with. -/
import Derived.Test.YtlghcldiboecoaaGreatDoorQ39
import Derived.Test.YtlghcldiboecoaaGreatDoorQ02
import Derived.Laws.OwnMore
import Derived.Test.YtlghcldiboecoaaGreatDoorQ07
import Derived.Lib.BufferWrite
import Derived.Deep.WholeRow
set_option linter.unusedVariables false
namespace Go.Proofs.YtlghcldiboecoaaGreatDoor
open Go.RowKit

/-- Frame by frame. -/
def rf : Nat → List UInt8 → List (List UInt8) × Bool
  | 0, _ => ([], true)
  | n + 1, b => if b.length < 4 then ([], true) else if 1000 < Orch.uns (b.take 4) then ([], false) else if b.length - 4 < Orch.uns (b.take 4) then ([], true) else
    ((b.drop 4).take (Orch.uns (b.take 4)) :: (rf n (b.drop (4 + Orch.uns (b.take 4)))).1, (rf n (b.drop (4 + Orch.uns (b.take 4)))).2)

theorem rf_short {m : Nat} {b : List UInt8} (h : b.length < 4) : rf m b = ([], true) := by
  cases m with
  | zero => rfl
  | succ m => unfold rf; rw [if_pos h]

theorem rf_succ (n : Nat) (b : List UInt8) : rf (n + 1) b = if b.length < 4 then ([], true) else if 1000 < Orch.uns (b.take 4) then ([], false) else if b.length - 4 < Orch.uns (b.take 4) then ([], true) else
    ((b.drop 4).take (Orch.uns (b.take 4)) :: (rf n (b.drop (4 + Orch.uns (b.take 4)))).1, (rf n (b.drop (4 + Orch.uns (b.take 4)))).2) := rfl

theorem info57' : ∃ i, Tryz.prog.info? 57 = some i ∧ i.zero = some (.slice none 0 0) ∧ i.size = 1 ∧ i.bytes = 24 := by
  have h1 : (Tryz.prog.info? 57).map (·.size) = some 1 := by kernel_rfl
  have h2 : (Tryz.prog.info? 57).map (·.bytes) = some 24 := by kernel_rfl
  have h3 : (Tryz.prog.info? 57).bind (·.zero) = some (.slice none 0 0) := by kernel_rfl
  cases hi : Tryz.prog.info? 57 with
  | none => rw [hi] at h1; cases h1
  | some i =>
    rw [hi] at h1 h2 h3
    exact ⟨i, rfl, h3, Option.some.inj h1, Option.some.inj h2⟩

/-- A body among bytes that lie in block B, in a list of capacity cap. -/
def bodyV (B cap : Nat) (x : Nat × List UInt8) : Value := .slice (some ⟨B, if cap = x.1 then 0 else x.1, none⟩) x.2.length (cap - x.1)

/-- The bodies, and where they lie. -/
def Lies (l : List UInt8) (x : Nat × List UInt8) : Prop := x.1 + x.2.length ≤ l.length ∧ x.2 = (l.drop x.1).take x.2.length

def AllLie (l : List UInt8) (xs : List (Nat × List UInt8)) : Prop := ∀ x ∈ xs, Lies l x
/-- What Frames leaves. -/
def FrRes (w : World) (B cap : Nat) (l : List UInt8) (e : Ending) (w' : World) : Prop := ∃ (xs : List (Nat × List UInt8)) (lv : Value), e = .returned (.tuple #[lv, .bool (rf l.length l).2]) ∧ xs.map (·.2) = (rf l.length l).1 ∧ AllLie l xs ∧
  w'.ownsRow w.heap.size 57 1 lv xs.length (xs.map (bodyV B cap)) ∧ Below w.heap.size w w'

theorem numI_frame {b : List UInt8} (h : b.length = 4) : (Orch.uns b ≤ 1000 → numI b = Orch.uns b) ∧ (1000 < Orch.uns b → numI b < 0 ∨ 1000 < numI b) := by
  have h1 := Orch.uns_lt b
  rw [h] at h1
  rw [numI_4 h]
  unfold Orch.sgn
  rw [h]
  constructor
  · intro hu
    rw [if_neg (by omega)]
  · intro hu
    split <;> omega

set_option maxRecDepth 10000 in
set_option maxHeartbeats 4000000 in
theorem frames_any (w : World) (B cap : Nat) (l : List UInt8) (hb : Bytes w B 0 l) (hB : B < w.heap.size) (hc : l.length ≤ cap) (hcm : cap ≤ maxLen) (hl : l.length ≤ 2000000) :
    Calls Tryz.prog 140 #[.slice (some ⟨B, 0, none⟩) l.length cap] w fun e w' => FrRes w B cap l e w' := by
  go_enter Tryz.func140, Tryz.ntmps140
  have HB := hide hb
  have hcm' : cap ≤ 9223372036854775807 := by unfold maxLen at hcm; omega
  clear hb hcm
  go_wp2
  go_loopw [4, 5] (fun lv a wr => ∃ (at' m : Nat) (xs : List (Nat × List UInt8)), a = .int .i64 at' ∧ at' ≤ l.length ∧ l.length - at' ≤ m ∧ 4 * xs.length ≤ at' ∧ Hid (wr.ownsRow w.heap.size 57 1 lv xs.length (xs.map (bodyV B cap))) ∧ Hid (Below w.heap.size w wr) ∧ Hid (AllLie l xs) ∧
      Hid (rf l.length l = (xs.map (·.2) ++ (rf m (l.drop at')).1, (rf m (l.drop at')).2)))
    (fun _ a _ => l.length - (intOf a).toNat)
  case atStart => exact ⟨0, l.length, [], rfl, Nat.zero_le _, Nat.le_refl _, Nat.zero_le _, ⟨rfl, .inl ⟨rfl, rfl⟩⟩, Below.refl _ _, (fun _ h => by cases h), by show _ = _; simp⟩
  case round =>
    obtain ⟨at', m, xs, rfl, hat, hm, hx4, HO, HBW, HL, HRF⟩ := hrel
    obtain ⟨qa, qc, hqv⟩ : ∃ a c, u4 = .slice a xs.length c := by
      rcases HO.out.2 with ⟨e, h⟩ | ⟨g, cap, cur, e, _⟩
      · exact ⟨none, 0, by rw [e, h]⟩
      · exact ⟨_, _, e⟩
    subst hqv
    by_cases h4 : l.length - at' < 4
    · have hz : ¬ (4 : Int) ≤ (l.length : Int) - (at' : Int) := by omega
      have hsh : rf m (l.drop at') = ([], true) := rf_short (by rw [List.length_drop]; omega)
      have HEND : Hid (rf l.length l = (xs.map (·.2), true)) := by show _ = _; rw [HRF.out, hsh]; simp
      clear hsh HRF
      go_wp2
      exact bodyPost_ret (v := .tuple #[.slice qa xs.length qc, .bool true]) (by simp [results, Tryz.results140, go_sem]) rfl ⟨xs, .slice qa xs.length qc, by rw [HEND.out], by rw [HEND.out], HL.out, HO.out, HBW.out⟩
    · have hz : (4 : Int) ≤ (l.length : Int) - (at' : Int) := by omega
      have hlen4 : ((l.drop at').take 4).length = 4 := by rw [List.length_take, List.length_drop]; omega
      have hby : Bytes wr B at' ((l.drop at').take 4) := by
        intro i hi
        have h1 := HB.out (at' + i) (by omega)
        rw [Nat.zero_add] at h1
        rw [World.cell?_of_block (w := w) (HBW.out.block B hB), h1]
        simp
      have hnum : ∀ c, 4 ≤ c → Calls Tryz.prog 144 #[.slice (some ⟨B, at', none⟩) 4 c] wr fun e w' => e = .returned (.int .i64 (numI ((l.drop at').take 4))) ∧ w' = wr := fun c hc4 => numberOf_any wr B at' 4 c ((l.drop at').take 4) hlen4 (by omega) hby hc4
      obtain ⟨hn1, hn2⟩ := numI_frame hlen4
      have hnin := numI_in ((l.drop at').take 4)
      obtain ⟨m', rfl⟩ : ∃ m', m = m' + 1 := ⟨m - 1, by omega⟩
      have hrf := HRF.out
      rw [rf_succ, if_neg (by rw [List.length_drop]; omega)] at hrf
      have hcap : ¬ cap = at' := by omega
      have hcapz : ¬ cap - at' = 0 := by omega
      have HRF' := hide hrf
      clear hrf HRF hby hlen4
      generalize hN : numI ((l.drop at').take 4) = N at *
      generalize hU : Orch.uns ((l.drop at').take 4) = U at *
      by_cases hbig : 1000 < U
      · have hbad := hn2 hbig
        have HEND : Hid (rf l.length l = (xs.map (·.2), false)) := by show _ = _; rw [HRF'.out, if_pos hbig]; simp
        clear HRF' hn1 hn2 hN hU hbig
        by_cases hneg : N < 0
        · go_wp2_with (go_at_call 144; refine (hnum _ (by omega)).mono ?_; rintro e w1 ⟨rfl, hw1⟩; have hw2 := hw1.symm; clear hw1; subst hw2)
          exact bodyPost_ret (v := .tuple #[.slice qa xs.length qc, .bool false]) (by simp [results, Tryz.results140, go_sem]) rfl ⟨xs, .slice qa xs.length qc, by rw [HEND.out], by rw [HEND.out], HL.out, HO.out, HBW.out⟩
        · have hgt : 1000 < N := hbad.resolve_left hneg
          clear hbad
          go_wp2_with (go_at_call 144; refine (hnum _ (by omega)).mono ?_; rintro e w1 ⟨rfl, hw1⟩; have hw2 := hw1.symm; clear hw1; subst hw2)
          exact bodyPost_ret (v := .tuple #[.slice qa xs.length qc, .bool false]) (by simp [results, Tryz.results140, go_sem]) rfl ⟨xs, .slice qa xs.length qc, by rw [HEND.out], by rw [HEND.out], HL.out, HO.out, HBW.out⟩
      · have hNU : N = (U : Int) := hn1 (by omega)
        subst hNU
        have hneg : ¬ (U : Int) < 0 := by omega
        have hgt : ¬ (1000 : Int) < (U : Int) := by omega
        by_cases hsh : l.length - at' - 4 < U
        · have hshz : (l.length : Int) - (at' : Int) - 4 < (U : Int) := by omega
          have HEND : Hid (rf l.length l = (xs.map (·.2), true)) := by show _ = _; rw [HRF'.out, if_neg hbig, if_pos (by rw [List.length_drop]; omega)]; simp
          clear HRF' hn1 hn2 hN hU hbig
          go_wp2_with (go_at_call 144; refine (hnum _ (by omega)).mono ?_; rintro e w1 ⟨rfl, hw1⟩; have hw2 := hw1.symm; clear hw1; subst hw2)
          exact bodyPost_ret (v := .tuple #[.slice qa xs.length qc, .bool true]) (by simp [results, Tryz.results140, go_sem]) rfl ⟨xs, .slice qa xs.length qc, by rw [HEND.out], by rw [HEND.out], HL.out, HO.out, HBW.out⟩
        · have hshz : ¬ (l.length : Int) - (at' : Int) - 4 < (U : Int) := by omega
          obtain ⟨i0, hi0, hz0, hz1, hz2⟩ := info57'
          have hrf2 := HRF'.out
          rw [if_neg hbig, if_neg (by rw [List.length_drop]; omega), List.drop_drop, List.drop_drop] at hrf2
          generalize hbd : (l.drop (at' + 4)).take U = body at *
          have hbl : body.length = U := by rw [← hbd, List.length_take, List.length_drop]; omega
          have HNX : Hid (rf l.length l = ((xs ++ [(at' + 4, body)]).map (·.2) ++ (rf m' (l.drop (at' + 4 + U))).1, (rf m' (l.drop (at' + 4 + U))).2)) := by
            show _ = _
            rw [hrf2, Nat.add_assoc]
            simp
          have HL2 : Hid (AllLie l (xs ++ [(at' + 4, body)])) := by
            intro x hx
            rw [List.mem_append] at hx
            rcases hx with hx | hx
            · exact HL.out x hx
            · obtain rfl : x = (at' + 4, body) := by simpa using hx
              exact ⟨by simp only; omega, by simp only; rw [hbl]; exact hbd.symm⟩
          have hsz := HBW.out.size
          have fin : ∀ (x : Value) (hx : x = bodyV B cap (at' + 4, body)) (v' : Value) (w6 : World), w6.ownsRow w.heap.size 57 1 v' (xs.length + 1) (xs.map (bodyV B cap) ++ [x]) → (wr.alloc (.cells #[x] 57)).grownBy w6 (Value.slice qa xs.length qc).ownBlock →
              Hid (w6.ownsRow w.heap.size 57 1 v' (xs ++ [(at' + 4, body)]).length ((xs ++ [(at' + 4, body)]).map (bodyV B cap))) ∧ Hid (Below w.heap.size w w6) := fun x hx v' w6 hown hgrow => by
            refine ⟨?_, ?_⟩
            · show World.ownsRow _ _ _ _ _ _ _
              rw [List.length_append, List.map_append, List.map_singleton, ← hx]
              exact hown
            · show Below _ _ _
              exact (HBW.out.alloc (by omega) _).grown hgrow (by simp; omega) (fun j hj => (HO.out.lt j hj).1)
          have hx8 : xs.length ≤ 1000000 := by omega
          clear hrf2 HRF' hn1 hn2 hN hU hbig hbd
          by_cases hce : cap = at' + 4
          · obtain rfl : U = 0 := by omega
            subst hce
            have fin' := fin (.slice (some ⟨B, 0, none⟩) 0 0) (by unfold bodyV; simp [hbl])
            have FIN := hide fin'
            clear fin fin'
            go_wp2_with first
              | (go_at_call 144; refine (hnum _ (by omega)).mono ?_; rintro e w1 ⟨rfl, hw1⟩; have hw2 := hw1.symm; clear hw1; subst hw2)
              | (at_builtin; refine wpList_append_own _ rfl _ _ 122 rfl w.heap.size 57 i0 (.slice none 0 0) 1 24 Tryz.underlying122 hi0 hz0 hz1 hz2 rfl (by decide) _ _ _ rfl (HO.out.alloc _) ⟨wr.heap.size, 0, none⟩ 1 1 [(.slice (some ⟨B, 0, none⟩) 0 0)] rfl rfl ?hn ?h1 ?c3 ?c4 ?c5 ?_)
            case hn => exact World.news_of_block (heap_alloc_new wr _)
            case h1 => intro u hu; obtain rfl : u = (.slice (some ⟨B, 0, none⟩) 0 0) := by simpa using hu
                       rfl
            case c3 => unfold maxLen; omega
            case c4 => omega
            case c5 => simp; omega
            intro v' w6 hown hgrow _
            obtain ⟨HO6, HB6⟩ := FIN.out v' w6 hown hgrow
            clear hown hgrow
            go_wp2_with fail
            go_roundw
            case rel => exact ⟨at' + 4 + 0, m', xs ++ [(at' + 4, body)], by go_num, by omega, by omega, by simp; omega, HO6, HB6, HL2, HNX⟩
            case measure => first | (simp [intOf]; done) | (simp [intOf]; omega)
          · have hce0 : ¬ cap - (at' + 4) = 0 := by omega
            have fin' := fin (.slice (some ⟨B, at' + 4, none⟩) U (cap - (at' + 4))) (by unfold bodyV; simp [hbl, hce])
            have FIN := hide fin'
            clear fin fin'
            go_wp2_with first
              | (go_at_call 144; refine (hnum _ (by omega)).mono ?_; rintro e w1 ⟨rfl, hw1⟩; have hw2 := hw1.symm; clear hw1; subst hw2)
              | (at_builtin; refine wpList_append_own _ rfl _ _ 122 rfl w.heap.size 57 i0 (.slice none 0 0) 1 24 Tryz.underlying122 hi0 hz0 hz1 hz2 rfl (by decide) _ _ _ rfl (HO.out.alloc _) ⟨wr.heap.size, 0, none⟩ 1 1 [(.slice (some ⟨B, at' + 4, none⟩) U (cap - (at' + 4)))] rfl rfl ?hn ?h1 ?c3 ?c4 ?c5 ?_)
            case hn => exact World.news_of_block (heap_alloc_new wr _)
            case h1 => intro u hu; obtain rfl : u = (.slice (some ⟨B, at' + 4, none⟩) U (cap - (at' + 4))) := by simpa using hu
                       rfl
            case c3 => unfold maxLen; omega
            case c4 => omega
            case c5 => simp; omega
            intro v' w6 hown hgrow _
            obtain ⟨HO6, HB6⟩ := FIN.out v' w6 hown hgrow
            clear hown hgrow
            go_wp2_with fail
            go_roundw
            case rel => exact ⟨at' + 4 + U, m', xs ++ [(at' + 4, body)], by go_num, by omega, by omega, by simp; omega, HO6, HB6, HL2, HNX⟩
            case measure => first | (simp [intOf]; done) | (simp [intOf]; omega)

end Go.Proofs.YtlghcldiboecoaaGreatDoor

/- The caller's loans of bytes. -/
set_option linter.unusedVariables false
namespace Go.Proofs.YtlghcldiboecoaaGreatDoor
open Go.RowKit

/-- Bytes that are lent: theirs, k places of room that are written, the others. -/
def lb (s : ByteArray) (k : Nat) : List Value := bcells s.data.toList ++ (List.replicate k (Value.int .u8 77) ++ List.replicate (3 - k) (Value.int .u8 0))

theorem bcells_size (s : ByteArray) : (bcells s.data.toList).length = s.size := by rw [bcells_len, Array.length_toList]; rfl

theorem lb_step (s : ByteArray) (k : Nat) (hk : k < 3) : (lb s k).toArray.setIfInBounds (s.size + k) (.int .u8 77) = (lb s (k + 1)).toArray := by
  rw [List.setIfInBounds_toArray]
  congr 1
  unfold lb
  rw [List.set_append_right _ _ (by rw [bcells_size]; omega), bcells_size, show s.size + k - s.size = k by omega]
  congr 1
  rcases (show k = 0 ∨ k = 1 ∨ k = 2 by omega) with rfl | rfl | rfl <;> rfl

theorem lb_get (s : ByteArray) (k j : Nat) (hj : j < 3) : ∃ z, (lb s k).toArray[s.size + j]? = some z ∨ 3 < k := by
  by_cases hk : 3 < k
  · exact ⟨.int .u8 0, .inr hk⟩
  · have hlen : s.size + j < (lb s k).length := by unfold lb; simp [bcells_size]; omega
    exact ⟨(lb s k)[s.size + j], .inl (by rw [List.getElem?_toArray, List.getElem?_eq_getElem hlen])⟩

set_option maxRecDepth 8000 in
set_option maxHeartbeats 2000000 in
theorem lentBytes_any (w : World) (s : ByteArray) (hs : s.size ≤ 4000000) :
    Calls Tryz.prog 87 #[.string s] w fun e w' => e = .returned (.slice (some ⟨w.heap.size, 0, none⟩) s.size (s.size + 3)) ∧ w'.heap[w.heap.size]? = some (.cells (lb s 3).toArray 5) ∧ Below w.heap.size w w' := by
  obtain ⟨i0, hi0, hz0, hz1, hz2⟩ := info_parts Tryz.info5
  have hmk := run_make (P := Tryz.prog) w 57 5 i0 _ Tryz.underlying57 hi0 hz0 .i64 .i64 ((s.size : Int) + 3) ((s.size : Int) + 3) (by omega) (by omega) (by rw [hz2]; omega) (by omega)
  rw [show ((s.size : Int) + 3).toNat = s.size + 3 by omega, hz1, Nat.mul_one] at hmk
  have hn := heap_alloc_new w (.cells (madeCells #[Value.int .u8 0] (s.size + 3)) 5)
  have hcp := Lib.run_copy_row_string (P := Tryz.prog) (w.alloc (.cells (madeCells #[Value.int .u8 0] (s.size + 3)) 5)) 57 9 3 5 w.heap.size 0 (s.size + 3) (s.size + 3) s _ 5 Tryz.underlying57 (by rw [hi0]; simp [hz1]) hn (by omega) (by rw [size_madeCells]; omega)
  have e1 : (List.take 0 (madeCells #[Value.int .u8 0] (s.size + 3)).toList ++ Lib.byteCells s.data.toList ++ List.drop (0 + s.size) (madeCells #[Value.int .u8 0] (s.size + 3)).toList).toArray = (lb s 0).toArray := by
    congr 1
    rw [toList_madeCells_one, List.drop_replicate, show s.size + 3 - (0 + s.size) = 3 by omega]
    rfl
  rw [e1] at hcp
  rw [World.setRow_alloc_new] at hcp
  have HR := hid (heap_alloc_new w (.cells (lb s 0).toArray 5))
  have HB := hid (below1 w (.cells (lb s 0).toArray 5))
  clear e1 hn
  go_enter Tryz.func87, Tryz.ntmps87
  go_wp2
  clear hmk hcp
  generalize w.alloc (.cells (lb s 0).toArray 5) = W0 at *
  go_loopw [5] (fun k wr => ∃ i : Nat, k = .int .i64 ((s.size : Int) + i) ∧ i ≤ 3 ∧ Hid (wr.heap[w.heap.size]? = some (.cells (lb s i).toArray 5)) ∧ Hid (Below w.heap.size w wr)) (fun k _ => s.size + 3 - (intOf k).toNat)
  case atStart => exact ⟨0, by simp, by omega, HR, HB⟩
  case round =>
    obtain ⟨i, rfl, hi, HR, HB⟩ := hrel
    by_cases hlt : i < 3
    · have hltz : (s.size : Int) + (i : Int) < (s.size : Int) + 3 := by omega
      obtain ⟨z, hz | hz⟩ := lb_get s i i hlt
      · have c0 := cellOf HR.out hz
        have z0 := frozen_of_row wr w.heap.size (s.size + i) _ 5 HR.out
        have HR2 : Hid ((wr.setCell ⟨w.heap.size, s.size + i, none⟩ (.int .u8 77)).heap[w.heap.size]? = some (.cells (lb s (i + 1)).toArray 5)) := by
          have h := heap_setCell_same wr w.heap.size (s.size + i) _ 5 (.int .u8 77) HR.out
          rw [lb_step s i hlt] at h
          exact h
        have HB2 : Hid (Below w.heap.size w (wr.setCell ⟨w.heap.size, s.size + i, none⟩ (.int .u8 77))) := HB.out.trans (below_setX (Nat.le_refl _))
        have hix : ((s.size : Int) + (i : Int)).toNat = s.size + i := by omega
        go_wp2
        all_goals go_roundw
        all_goals try (case rel => exact ⟨i + 1, by go_num, by omega, HR2, HB2⟩)
        all_goals try (case measure => simp [intOf]; omega)
      · omega
    · have hltz : ¬ (s.size : Int) + (i : Int) < (s.size : Int) + 3 := by omega
      have hie : i = 3 := by omega
      subst hie
      go_wp2
      all_goals go_ret
      all_goals exact ⟨rfl, HR.out, HB.out⟩

/-- Bytes that were lent, the first i of them written over. -/
def wb (s : ByteArray) (i : Nat) : List Value := List.replicate i (Value.int .u8 200) ++ (lb s 3).drop i

theorem lb_len (s : ByteArray) : (lb s 3).length = s.size + 3 := by unfold lb; simp [bcells_size]

theorem wb_step (s : ByteArray) (i : Nat) (hi : i < s.size + 3) : (wb s i).toArray.setIfInBounds i (.int .u8 200) = (wb s (i + 1)).toArray := by
  rw [List.setIfInBounds_toArray]
  congr 1
  unfold wb
  have hl : i < (lb s 3).length := by rw [lb_len]; exact hi
  rw [List.set_append_right _ _ (by simp), List.length_replicate, Nat.sub_self, List.drop_eq_getElem_cons hl, List.set_cons_zero, show List.replicate (i + 1) (Value.int .u8 200) = List.replicate i (Value.int .u8 200) ++ [Value.int .u8 200] from List.replicate_succ', List.append_assoc]
  rfl

theorem wb_get (s : ByteArray) (i : Nat) (hi : i < s.size + 3) : ∃ z : UInt8, (wb s i).toArray[i]? = some (.int .u8 z.toNat) ∧ (s.size ≤ i → z = 77) := by
  have hl : i < (lb s 3).length := by rw [lb_len]; exact hi
  have h0 : (wb s i).toArray[i]? = (lb s 3)[i]? := by
    rw [List.getElem?_toArray, wb, List.getElem?_append_right (by simp), List.length_replicate, Nat.sub_self, List.getElem?_drop, Nat.add_zero]
  rw [h0]
  by_cases hs : i < s.size
  · have hb : i < s.data.toList.length := by rw [Array.length_toList]; exact hs
    refine ⟨s.data.toList[i], ?_, fun h => by omega⟩
    rw [lb, List.getElem?_append_left (by rw [bcells_size]; exact hs), bcells, List.getElem?_map, List.getElem?_eq_getElem hb]
    rfl
  · refine ⟨77, ?_, fun _ => rfl⟩
    rw [lb, List.getElem?_append_right (by rw [bcells_size]; omega), bcells_size]
    rcases (show i - s.size = 0 ∨ i - s.size = 1 ∨ i - s.size = 2 by omega) with h | h | h <;> rw [h] <;> rfl

theorem lent_own (s : ByteArray) {W : World} {g : Nat} (hg : W.heap[g]? = some (.cells (lb s 3).toArray 5)) (hs : s.size ≤ 4000000) : W.ownsRow 0 5 1 (.slice (some ⟨g, 0, none⟩) s.size (s.size + 3)) s.data.toList.length (bcells s.data.toList) := by
  refine ⟨by rw [bcells_len, Nat.mul_one], .inr ⟨g, s.size + 3, (lb s 3).toArray, by rw [Array.length_toList]; rfl, Nat.zero_le _, hg, by rw [Array.length_toList]; show s.size ≤ _; omega, by unfold maxLen; omega, ?_, ?_⟩⟩
  · rw [List.size_toArray, lb_len, Nat.mul_one]
  · show List.take _ (lb s 3) = _
    rw [lb, Nat.mul_one, ← bcells_len, List.take_left]

set_option maxRecDepth 8000 in
set_option maxHeartbeats 2000000 in
theorem wholeBytes_any (w : World) (s : ByteArray) (g : Nat) (hs : s.size ≤ 4000000) (hg : w.heap[g]? = some (.cells (lb s 3).toArray 5)) :
    Calls Tryz.prog 92 #[.slice (some ⟨g, 0, none⟩) s.size (s.size + 3), .string s] w fun e w' => e = .returned (.bool true) ∧ w.grownBy w' (some g) := by
  have hcv := conv_own (lent_own s hg hs)
  rw [show (⟨s.data.toList.toArray⟩ : ByteArray) = s by cases s; simp] at hcv
  have HG : Hid (w.heap[g]? = some (.cells (wb s 0).toArray 5)) := by rw [show wb s 0 = lb s 3 by simp [wb]]; exact hg
  clear hg
  go_enter Tryz.func92, Tryz.ntmps92
  go_wp2
  clear hcv
  go_loopw [7, 8] (fun b k wr => ∃ i : Nat, b = .bool true ∧ k = .int .i64 i ∧ i ≤ s.size + 3 ∧ Hid (wr.heap[g]? = some (.cells (wb s i).toArray 5)) ∧ Hid (w.grownBy wr (some g))) (fun _ k _ => s.size + 3 - (intOf k).toNat)
  case atStart => exact ⟨0, rfl, rfl, by omega, HG, ⟨rfl, rfl, rfl, Nat.le_refl _, fun _ _ _ => rfl⟩⟩
  case round =>
    obtain ⟨i, rfl, rfl, hi, HR, HB⟩ := hrel
    by_cases hlt : i < s.size + 3
    · have hltz : (i : Int) < (s.size : Int) + 3 := by omega
      obtain ⟨z, hz, hz77⟩ := wb_get s i hlt
      have c0 := cellOf HR.out hz
      have z0 := frozen_of_row wr g i _ 5 HR.out
      have HR2 : Hid ((wr.setCell ⟨g, i, none⟩ (.int .u8 200)).heap[g]? = some (.cells (wb s (i + 1)).toArray 5)) := by
        have h := heap_setCell_same wr g i _ 5 (.int .u8 200) HR.out
        rw [wb_step s i hlt] at h
        exact h
      have HB2 : Hid (w.grownBy (wr.setCell ⟨g, i, none⟩ (.int .u8 200)) (some g)) := by
        have h := HB.out
        refine ⟨h.os, h.tape, h.output, by simpa using h.size, fun k hk hne => ?_⟩
        rw [heap_setCell_other _ _ _ _ (fun e => hne (by rw [e]))]
        exact h.block k hk hne
      by_cases his : i < s.size
      · have hisz : (i : Int) < (s.size : Int) := by omega
        generalize z.toNat = zn at *
        go_wp2
        all_goals go_roundw
        all_goals try (case rel => exact ⟨i + 1, rfl, by go_num, by omega, HR2, HB2⟩)
        all_goals try (case measure => simp [intOf]; omega)
      · have hisz : ¬ (i : Int) < (s.size : Int) := by omega
        obtain rfl := hz77 (by omega)
        have c1 : wr.cell? ⟨g, i, none⟩ = some (.int .u8 77) := c0
        clear c0
        go_wp2
        all_goals go_roundw
        all_goals try (case rel => exact ⟨i + 1, rfl, by go_num, by omega, HR2, HB2⟩)
        all_goals try (case measure => simp [intOf]; omega)
    · have hltz : ¬ (i : Int) < (s.size : Int) + 3 := by omega
      go_wp2
      all_goals go_ret
      all_goals exact ⟨rfl, HB.out⟩

end Go.Proofs.YtlghcldiboecoaaGreatDoor
