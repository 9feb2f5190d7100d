/- The document's reader: the frames that bytes begin with. -/
import Derived.Test.YtlghcldiboecoaaGreatDoorQ36
import Derived.Test.YtlghcldiboecoaaGreatDoorQ01
import Derived.Laws.OwnMore
import Derived.Test.YtlghcldiboecoaaGreatDoorQ00
import Derived.Lib.ValidU
set_option linter.unusedVariables false
namespace Go.Proofs.YtlghcldiboecoaaGreatDoor
open Go.RowKit

/-- Frame by frame. -/
def rf : Nat → List UInt8 → List (List UInt8) × Bool
  | 0, _ => ([], true)
  | n + 1, b => if b.length < 4 then ([], true) else if 1000 < Orch.uns (b.take 4) then ([], false) else if b.length - 4 < Orch.uns (b.take 4) then ([], true) else
    ((b.drop 4).take (Orch.uns (b.take 4)) :: (rf n (b.drop (4 + Orch.uns (b.take 4)))).1, (rf n (b.drop (4 + Orch.uns (b.take 4)))).2)

theorem rf_short {m : Nat} {b : List UInt8} (h : b.length < 4) : rf m b = ([], true) := by
  cases m with
  | zero => rfl
  | succ m => unfold rf; rw [if_pos h]

theorem rf_succ (n : Nat) (b : List UInt8) : rf (n + 1) b = if b.length < 4 then ([], true) else if 1000 < Orch.uns (b.take 4) then ([], false) else if b.length - 4 < Orch.uns (b.take 4) then ([], true) else
    ((b.drop 4).take (Orch.uns (b.take 4)) :: (rf n (b.drop (4 + Orch.uns (b.take 4)))).1, (rf n (b.drop (4 + Orch.uns (b.take 4)))).2) := rfl

theorem info57' : ∃ i, Tryz.prog.info? 57 = some i ∧ i.zero = some (.slice none 0 0) ∧ i.size = 1 ∧ i.bytes = 24 := by
  have h1 : (Tryz.prog.info? 57).map (·.size) = some 1 := by kernel_rfl
  have h2 : (Tryz.prog.info? 57).map (·.bytes) = some 24 := by kernel_rfl
  have h3 : (Tryz.prog.info? 57).bind (·.zero) = some (.slice none 0 0) := by kernel_rfl
  cases hi : Tryz.prog.info? 57 with
  | none => rw [hi] at h1; cases h1
  | some i =>
    rw [hi] at h1 h2 h3
    exact ⟨i, rfl, h3, Option.some.inj h1, Option.some.inj h2⟩

/-- A body among bytes that lie in block B, in a list of capacity cap. -/
def bodyV (B cap : Nat) (x : Nat × List UInt8) : Value := .slice (some ⟨B, if cap = x.1 then 0 else x.1, none⟩) x.2.length (cap - x.1)

/-- The bodies, and where they lie. -/
def Lies (l : List UInt8) (x : Nat × List UInt8) : Prop := x.1 + x.2.length ≤ l.length ∧ x.2 = (l.drop x.1).take x.2.length

def AllLie (l : List UInt8) (xs : List (Nat × List UInt8)) : Prop := ∀ x ∈ xs, Lies l x
/-- What Frames leaves. -/
def FrRes (w : World) (B cap : Nat) (l : List UInt8) (e : Ending) (w' : World) : Prop := ∃ (xs : List (Nat × List UInt8)) (lv : Value), e = .returned (.tuple #[lv, .bool (rf l.length l).2]) ∧ xs.map (·.2) = (rf l.length l).1 ∧ AllLie l xs ∧
  w'.ownsRow w.heap.size 57 1 lv xs.length (xs.map (bodyV B cap)) ∧ Below w.heap.size w w'

theorem numI_frame {b : List UInt8} (h : b.length = 4) : (Orch.uns b ≤ 1000 → numI b = Orch.uns b) ∧ (1000 < Orch.uns b → numI b < 0 ∨ 1000 < numI b) := by
  have h1 := Orch.uns_lt b
  rw [h] at h1
  rw [numI_4 h]
  unfold Orch.sgn
  rw [h]
  constructor
  · intro hu
    rw [if_neg (by omega)]
  · intro hu
    split <;> omega

set_option maxRecDepth 10000 in
set_option maxHeartbeats 4000000 in
theorem frames_any (w : World) (B cap : Nat) (l : List UInt8) (hb : Bytes w B 0 l) (hB : B < w.heap.size) (hc : l.length ≤ cap) (hcm : cap ≤ maxLen) (hl : l.length ≤ 2000000) :
    Calls Tryz.prog 140 #[.slice (some ⟨B, 0, none⟩) l.length cap] w fun e w' => FrRes w B cap l e w' := by
  go_enter Tryz.func140, Tryz.ntmps140
  have HB := hide hb
  have hcm' : cap ≤ 9223372036854775807 := by unfold maxLen at hcm; omega
  clear hb hcm
  go_wp2
  go_loopw [4, 5] (fun lv a wr => ∃ (at' m : Nat) (xs : List (Nat × List UInt8)), a = .int .i64 at' ∧ at' ≤ l.length ∧ l.length - at' ≤ m ∧ 4 * xs.length ≤ at' ∧ Hid (wr.ownsRow w.heap.size 57 1 lv xs.length (xs.map (bodyV B cap))) ∧ Hid (Below w.heap.size w wr) ∧ Hid (AllLie l xs) ∧
      Hid (rf l.length l = (xs.map (·.2) ++ (rf m (l.drop at')).1, (rf m (l.drop at')).2)))
    (fun _ a _ => l.length - (intOf a).toNat)
  case atStart => exact ⟨0, l.length, [], rfl, Nat.zero_le _, Nat.le_refl _, Nat.zero_le _, ⟨rfl, .inl ⟨rfl, rfl⟩⟩, Below.refl _ _, (fun _ h => by cases h), by show _ = _; simp⟩
  case round =>
    obtain ⟨at', m, xs, rfl, hat, hm, hx4, HO, HBW, HL, HRF⟩ := hrel
    obtain ⟨qa, qc, hqv⟩ : ∃ a c, u4 = .slice a xs.length c := by
      rcases HO.out.2 with ⟨e, h⟩ | ⟨g, cap, cur, e, _⟩
      · exact ⟨none, 0, by rw [e, h]⟩
      · exact ⟨_, _, e⟩
    subst hqv
    by_cases h4 : l.length - at' < 4
    · have hz : ¬ (4 : Int) ≤ (l.length : Int) - (at' : Int) := by omega
      have hsh : rf m (l.drop at') = ([], true) := rf_short (by rw [List.length_drop]; omega)
      have HEND : Hid (rf l.length l = (xs.map (·.2), true)) := by show _ = _; rw [HRF.out, hsh]; simp
      clear hsh HRF
      go_wp2
      exact bodyPost_ret (v := .tuple #[.slice qa xs.length qc, .bool true]) (by simp [results, Tryz.results140, go_sem]) rfl ⟨xs, .slice qa xs.length qc, by rw [HEND.out], by rw [HEND.out], HL.out, HO.out, HBW.out⟩
    · have hz : (4 : Int) ≤ (l.length : Int) - (at' : Int) := by omega
      have hlen4 : ((l.drop at').take 4).length = 4 := by rw [List.length_take, List.length_drop]; omega
      have hby : Bytes wr B at' ((l.drop at').take 4) := by
        intro i hi
        have h1 := HB.out (at' + i) (by omega)
        rw [Nat.zero_add] at h1
        rw [World.cell?_of_block (w := w) (HBW.out.block B hB), h1]
        simp
      have hnum : ∀ c, 4 ≤ c → Calls Tryz.prog 144 #[.slice (some ⟨B, at', none⟩) 4 c] wr fun e w' => e = .returned (.int .i64 (numI ((l.drop at').take 4))) ∧ w' = wr := fun c hc4 => numberOf_any wr B at' 4 c ((l.drop at').take 4) hlen4 (by omega) hby hc4
      obtain ⟨hn1, hn2⟩ := numI_frame hlen4
      have hnin := numI_in ((l.drop at').take 4)
      obtain ⟨m', rfl⟩ : ∃ m', m = m' + 1 := ⟨m - 1, by omega⟩
      have hrf := HRF.out
      rw [rf_succ, if_neg (by rw [List.length_drop]; omega)] at hrf
      have hcap : ¬ cap = at' := by omega
      have hcapz : ¬ cap - at' = 0 := by omega
      have HRF' := hide hrf
      clear hrf HRF hby hlen4
      generalize hN : numI ((l.drop at').take 4) = N at *
      generalize hU : Orch.uns ((l.drop at').take 4) = U at *
      by_cases hbig : 1000 < U
      · have hbad := hn2 hbig
        have HEND : Hid (rf l.length l = (xs.map (·.2), false)) := by show _ = _; rw [HRF'.out, if_pos hbig]; simp
        clear HRF' hn1 hn2 hN hU hbig
        by_cases hneg : N < 0
        · go_wp2_with (go_at_call 144; refine (hnum _ (by omega)).mono ?_; rintro e w1 ⟨rfl, hw1⟩; have hw2 := hw1.symm; clear hw1; subst hw2)
          exact bodyPost_ret (v := .tuple #[.slice qa xs.length qc, .bool false]) (by simp [results, Tryz.results140, go_sem]) rfl ⟨xs, .slice qa xs.length qc, by rw [HEND.out], by rw [HEND.out], HL.out, HO.out, HBW.out⟩
        · have hgt : 1000 < N := hbad.resolve_left hneg
          clear hbad
          go_wp2_with (go_at_call 144; refine (hnum _ (by omega)).mono ?_; rintro e w1 ⟨rfl, hw1⟩; have hw2 := hw1.symm; clear hw1; subst hw2)
          exact bodyPost_ret (v := .tuple #[.slice qa xs.length qc, .bool false]) (by simp [results, Tryz.results140, go_sem]) rfl ⟨xs, .slice qa xs.length qc, by rw [HEND.out], by rw [HEND.out], HL.out, HO.out, HBW.out⟩
      · have hNU : N = (U : Int) := hn1 (by omega)
        subst hNU
        have hneg : ¬ (U : Int) < 0 := by omega
        have hgt : ¬ (1000 : Int) < (U : Int) := by omega
        by_cases hsh : l.length - at' - 4 < U
        · have hshz : (l.length : Int) - (at' : Int) - 4 < (U : Int) := by omega
          have HEND : Hid (rf l.length l = (xs.map (·.2), true)) := by show _ = _; rw [HRF'.out, if_neg hbig, if_pos (by rw [List.length_drop]; omega)]; simp
          clear HRF' hn1 hn2 hN hU hbig
          go_wp2_with (go_at_call 144; refine (hnum _ (by omega)).mono ?_; rintro e w1 ⟨rfl, hw1⟩; have hw2 := hw1.symm; clear hw1; subst hw2)
          exact bodyPost_ret (v := .tuple #[.slice qa xs.length qc, .bool true]) (by simp [results, Tryz.results140, go_sem]) rfl ⟨xs, .slice qa xs.length qc, by rw [HEND.out], by rw [HEND.out], HL.out, HO.out, HBW.out⟩
        · have hshz : ¬ (l.length : Int) - (at' : Int) - 4 < (U : Int) := by omega
          obtain ⟨i0, hi0, hz0, hz1, hz2⟩ := info57'
          have hrf2 := HRF'.out
          rw [if_neg hbig, if_neg (by rw [List.length_drop]; omega), List.drop_drop, List.drop_drop] at hrf2
          generalize hbd : (l.drop (at' + 4)).take U = body at *
          have hbl : body.length = U := by rw [← hbd, List.length_take, List.length_drop]; omega
          have HNX : Hid (rf l.length l = ((xs ++ [(at' + 4, body)]).map (·.2) ++ (rf m' (l.drop (at' + 4 + U))).1, (rf m' (l.drop (at' + 4 + U))).2)) := by
            show _ = _
            rw [hrf2, Nat.add_assoc]
            simp
          have HL2 : Hid (AllLie l (xs ++ [(at' + 4, body)])) := by
            intro x hx
            rw [List.mem_append] at hx
            rcases hx with hx | hx
            · exact HL.out x hx
            · obtain rfl : x = (at' + 4, body) := by simpa using hx
              exact ⟨by simp only; omega, by simp only; rw [hbl]; exact hbd.symm⟩
          have hsz := HBW.out.size
          have fin : ∀ (x : Value) (hx : x = bodyV B cap (at' + 4, body)) (v' : Value) (w6 : World), w6.ownsRow w.heap.size 57 1 v' (xs.length + 1) (xs.map (bodyV B cap) ++ [x]) → (wr.alloc (.cells #[x] 57)).grownBy w6 (Value.slice qa xs.length qc).ownBlock →
              Hid (w6.ownsRow w.heap.size 57 1 v' (xs ++ [(at' + 4, body)]).length ((xs ++ [(at' + 4, body)]).map (bodyV B cap))) ∧ Hid (Below w.heap.size w w6) := fun x hx v' w6 hown hgrow => by
            refine ⟨?_, ?_⟩
            · show World.ownsRow _ _ _ _ _ _ _
              rw [List.length_append, List.map_append, List.map_singleton, ← hx]
              exact hown
            · show Below _ _ _
              exact (HBW.out.alloc (by omega) _).grown hgrow (by simp; omega) (fun j hj => (HO.out.lt j hj).1)
          have hx8 : xs.length ≤ 1000000 := by omega
          clear hrf2 HRF' hn1 hn2 hN hU hbig hbd
          by_cases hce : cap = at' + 4
          · obtain rfl : U = 0 := by omega
            subst hce
            have fin' := fin (.slice (some ⟨B, 0, none⟩) 0 0) (by unfold bodyV; simp [hbl])
            have FIN := hide fin'
            clear fin fin'
            go_wp2_with first
              | (go_at_call 144; refine (hnum _ (by omega)).mono ?_; rintro e w1 ⟨rfl, hw1⟩; have hw2 := hw1.symm; clear hw1; subst hw2)
              | (at_builtin; refine wpList_append_own _ rfl _ _ 122 rfl w.heap.size 57 i0 (.slice none 0 0) 1 24 Tryz.underlying122 hi0 hz0 hz1 hz2 rfl (by decide) _ _ _ rfl (HO.out.alloc _) ⟨wr.heap.size, 0, none⟩ 1 1 [(.slice (some ⟨B, 0, none⟩) 0 0)] rfl rfl ?hn ?h1 ?c3 ?c4 ?c5 ?_)
            case hn => exact World.news_of_block (heap_alloc_new wr _)
            case h1 => intro u hu; obtain rfl : u = (.slice (some ⟨B, 0, none⟩) 0 0) := by simpa using hu
                       rfl
            case c3 => unfold maxLen; omega
            case c4 => omega
            case c5 => simp; omega
            intro v' w6 hown hgrow _
            obtain ⟨HO6, HB6⟩ := FIN.out v' w6 hown hgrow
            clear hown hgrow
            go_wp2_with fail
            go_roundw
            case rel => exact ⟨at' + 4 + 0, m', xs ++ [(at' + 4, body)], by go_num, by omega, by omega, by simp; omega, HO6, HB6, HL2, HNX⟩
            case measure => first | (simp [intOf]; done) | (simp [intOf]; omega)
          · have hce0 : ¬ cap - (at' + 4) = 0 := by omega
            have fin' := fin (.slice (some ⟨B, at' + 4, none⟩) U (cap - (at' + 4))) (by unfold bodyV; simp [hbl, hce])
            have FIN := hide fin'
            clear fin fin'
            go_wp2_with first
              | (go_at_call 144; refine (hnum _ (by omega)).mono ?_; rintro e w1 ⟨rfl, hw1⟩; have hw2 := hw1.symm; clear hw1; subst hw2)
              | (at_builtin; refine wpList_append_own _ rfl _ _ 122 rfl w.heap.size 57 i0 (.slice none 0 0) 1 24 Tryz.underlying122 hi0 hz0 hz1 hz2 rfl (by decide) _ _ _ rfl (HO.out.alloc _) ⟨wr.heap.size, 0, none⟩ 1 1 [(.slice (some ⟨B, at' + 4, none⟩) U (cap - (at' + 4)))] rfl rfl ?hn ?h1 ?c3 ?c4 ?c5 ?_)
            case hn => exact World.news_of_block (heap_alloc_new wr _)
            case h1 => intro u hu; obtain rfl : u = (.slice (some ⟨B, at' + 4, none⟩) U (cap - (at' + 4))) := by simpa using hu
                       rfl
            case c3 => unfold maxLen; omega
            case c4 => omega
            case c5 => simp; omega
            intro v' w6 hown hgrow _
            obtain ⟨HO6, HB6⟩ := FIN.out v' w6 hown hgrow
            clear hown hgrow
            go_wp2_with fail
            go_roundw
            case rel => exact ⟨at' + 4 + U, m', xs ++ [(at' + 4, body)], by go_num, by omega, by omega, by simp; omega, HO6, HB6, HL2, HNX⟩
            case measure => first | (simp [intOf]; done) | (simp [intOf]; omega)

end Go.Proofs.YtlghcldiboecoaaGreatDoor

/- A list of values that lies anywhere: nil, empty, or a row at any place of a block. -/
namespace Go.Proofs.YtlghcldiboecoaaGreatDoor
open Go.RowKit

inductive WsAt (w : World) (S : Nat → Prop) : List Orch.V → Value → Prop
  | nil : WsAt w S [] (.slice none 0 0)
  | emp (a : Addr) (c : Nat) : WsAt w S [] (.slice (some a) 0 c)
  | row (ps : List (Orch.V × Value)) (g o cap : Nat) (h0 : ps ≠ []) (hcap : ps.length ≤ cap) (hS : S g)
      (hc : ∀ j u, (ps.flatMap vcell)[j]? = some u → w.cell? ⟨g, o + j, none⟩ = some u)
      (hr : ∀ p, p ∈ ps → WsAt w S p.1.l p.2) : WsAt w S (ps.map Prod.fst) (.slice (some ⟨g, o, none⟩) ps.length cap)

theorem WsAt.congr {w w' : World} {S S' : Nat → Prop} (hSS : ∀ b, S b → S' b) (hw : ∀ b, S b → w'.heap[b]? = w.heap[b]?) {ts : List Orch.V} {v : Value} (h : WsAt w S ts v) : WsAt w' S' ts v := by
  induction h with
  | nil => exact .nil
  | emp a c => exact .emp a c
  | row ps g o cap h0 hcap hS hc hr ih =>
    exact .row ps g o cap h0 hcap (hSS g hS) (fun j u hu => by rw [World.cell?_of_block (w := w) (a := ⟨g, o + j, none⟩) (hw g hS)]; exact hc j u hu) (fun p hp => ih p hp)

theorem WsAt.shape {w : World} {S : Nat → Prop} {ts : List Orch.V} {v : Value} (h : WsAt w S ts v) : ∃ a c, v = .slice a ts.length c := by
  cases h with
  | nil => exact ⟨_, _, rfl⟩
  | emp a c => exact ⟨_, _, rfl⟩
  | row ps g o cap => exact ⟨_, _, by rw [List.length_map]⟩

theorem WsAt.fam {w : World} {S : Nat → Prop} {vs : List Orch.V} {v : Value} (h : WsAt w S vs v) : ∃ ex : Nat → Value, ∀ i (hi : i < vs.length),
    ∃ g o cap, v = .slice (some ⟨g, o, none⟩) vs.length cap ∧ vs.length ≤ cap ∧ S g ∧ WsAt w S vs[i].l (ex i) ∧ ∀ j u, (vcell (vs[i], ex i))[j]? = some u → w.cell? ⟨g, o + i * 3 + j, none⟩ = some u := by
  cases h with
  | nil => exact ⟨fun _ => .slice none 0 0, fun i hi => by simp at hi⟩
  | emp a c => exact ⟨fun _ => .slice none 0 0, fun i hi => by simp at hi⟩
  | row ps g o cap h0 hcap hS hc hr =>
    refine ⟨fun i => (ps.getD i (zV, .slice none 0 0)).2, fun i hi => ?_⟩
    have hi' : i < ps.length := by simpa using hi
    have eg : ps.getD i (zV, .slice none 0 0) = ps[i] := getD_lt _ _ _ hi'
    simp only [eg]
    refine ⟨g, o, cap, by rw [List.length_map], by rw [List.length_map]; exact hcap, hS, ?_, fun j u hu => ?_⟩
    · rw [List.getElem_map]; exact hr _ (List.getElem_mem hi')
    · rw [Nat.add_assoc]
      refine hc _ u ?_
      have hj : j < 3 := by
        have := (List.getElem?_eq_some_iff.1 hu).1
        rwa [vcell_len] at this
      rw [flat_get vcell 3 vcell_len ps i j hj, List.getElem?_eq_getElem hi', Option.bind_some]
      rw [List.getElem_map] at hu
      exact hu

end Go.Proofs.YtlghcldiboecoaaGreatDoor

/- The document's answer: is a text one type, a schema? -/
namespace Go.Proofs.YtlghcldiboecoaaGreatDoor
open Go.RowKit

theorem toList_len (s : ByteArray) : s.data.toList.length = s.size := by rw [Array.length_toList]; rfl

theorem getD_idx (s : ByteArray) (i : Nat) (h : i < s.size) : s.data.toList.getD i 0 = s[i] := by
  rw [List.getD_eq_getElem?_getD, List.getElem?_eq_getElem (by rw [toList_len]; exact h)]
  rfl

end Go.Proofs.YtlghcldiboecoaaGreatDoor

/- Plain mathematics of the document's answer: well-formed characters, one by one. -/
namespace Orch
open Go

def isCont (l : List UInt8) (k : Nat) : Bool := decide (k < l.length) && decide (128 ≤ (l.getD k 0).toNat) && decide ((l.getD k 0).toNat ≤ 191)

def byteAt (l : List UInt8) (k : Nat) : Nat := (l.getD k 0).toNat
def ch2 (l : List UInt8) : Nat := byteAt l 0 % 32 * 64 + byteAt l 1 % 64
def ch3 (l : List UInt8) : Nat := byteAt l 0 % 16 * 4096 + byteAt l 1 % 64 * 64 + byteAt l 2 % 64
def ch4 (l : List UInt8) : Nat := byteAt l 0 % 8 * 262144 + byteAt l 1 % 64 * 4096 + byteAt l 2 % 64 * 64 + byteAt l 3 % 64

theorem getB (l : List UInt8) (k : Nat) : ((⟨l.toArray⟩ : ByteArray).get! (0 + k)).toNat = byteAt l k := by
  unfold byteAt
  rw [Nat.zero_add, List.getD_eq_getElem?_getD]
  show (l.toArray[k]!).toNat = _
  rw [getElem!_def, List.getElem?_toArray]
  cases l[k]? <;> rfl

theorem contB (l : List UInt8) (k : Nat) : (decide (0 + k < (⟨l.toArray⟩ : ByteArray).size) && byteAt l k / 64 == 2) = isCont l k := by
  rw [Nat.zero_add]
  unfold isCont byteAt
  have e : (⟨l.toArray⟩ : ByteArray).size = l.length := by show l.toArray.size = _; simp
  rw [e, Bool.and_assoc]
  congr 1
  rw [Bool.eq_iff_iff]
  simp only [beq_iff_eq, Bool.and_eq_true, decide_eq_true_iff]
  omega

theorem decode_eq (l : List UInt8) : Lib.decodeL l =
    (if byteAt l 0 < 128 then (byteAt l 0, 1)
     else if (byteAt l 0 / 32 == 6 && isCont l 1) = true then (if ch2 l ≥ 128 then (ch2 l, 2) else (65533, 1))
     else if (byteAt l 0 / 16 == 14 && isCont l 1 && isCont l 2) = true then (if (decide (ch3 l ≥ 2048) && Utf8.valid (ch3 l : Nat)) = true then (ch3 l, 3) else (65533, 1))
     else if (byteAt l 0 / 8 == 30 && isCont l 1 && isCont l 2 && isCont l 3) = true then (if (decide (ch4 l ≥ 65536) && Utf8.valid (ch4 l : Nat)) = true then (ch4 l, 4) else (65533, 1))
     else (65533, 1)) := by
  unfold Lib.decodeL Utf8.decode
  simp only [getB, contB]
  rfl

def uStep (l : List UInt8) : Option Nat :=
  if byteAt l 0 < 128 then some 1
  else if 192 ≤ byteAt l 0 ∧ byteAt l 0 < 224 then (if isCont l 1 = true ∧ 128 ≤ ch2 l then some 2 else none)
  else if 224 ≤ byteAt l 0 ∧ byteAt l 0 < 240 then (if (isCont l 1 = true ∧ isCont l 2 = true) ∧ 2048 ≤ ch3 l ∧ ¬ (55296 ≤ ch3 l ∧ ch3 l ≤ 57343) then some 3 else none)
  else if 240 ≤ byteAt l 0 ∧ byteAt l 0 < 248 then (if (isCont l 1 = true ∧ isCont l 2 = true ∧ isCont l 3 = true) ∧ 65536 ≤ ch4 l ∧ ch4 l ≤ 1114111 then some 4 else none)
  else none

theorem valid_iff (n : Nat) : Utf8.valid (n : Int) = true ↔ n < 55296 ∨ (57344 ≤ n ∧ n ≤ 1114111) := by
  unfold Utf8.valid
  simp only [Bool.or_eq_true, Bool.and_eq_true, decide_eq_true_iff]
  omega

theorem uStep_decode (l : List UInt8) : (∀ k, uStep l = some k → ¬ ((Lib.decodeL l).1 = 65533 ∧ (Lib.decodeL l).2 = 1) ∧ (Lib.decodeL l).2 = k) ∧ (uStep l = none → (Lib.decodeL l).1 = 65533 ∧ (Lib.decodeL l).2 = 1) := by
  have h3 : ch3 l ≤ 65535 := by unfold ch3; omega
  rw [decode_eq]
  unfold uStep
  by_cases a1 : byteAt l 0 < 128
  · rw [if_pos a1, if_pos a1]
    refine ⟨fun k hk => ?_, fun h => by cases h⟩
    simp only [Option.some.injEq] at hk
    subst hk
    exact ⟨by simp only; omega, rfl⟩
  · rw [if_neg a1, if_neg a1]
    by_cases a2 : 192 ≤ byteAt l 0 ∧ byteAt l 0 < 224
    · have e2 : (byteAt l 0 / 32 == 6) = true := by rw [beq_iff_eq]; omega
      have e3 : (byteAt l 0 / 16 == 14) = false := by rw [beq_eq_false_iff_ne]; omega
      have e4 : (byteAt l 0 / 8 == 30) = false := by rw [beq_eq_false_iff_ne]; omega
      rw [if_pos a2, e2, e3, e4]
      cases isCont l 1 with
      | false => simp
      | true =>
        by_cases hc : 128 ≤ ch2 l
        · simp [hc]
        · simp [hc]
    · rw [if_neg a2]
      have e2 : (byteAt l 0 / 32 == 6) = false := by rw [beq_eq_false_iff_ne]; omega
      rw [e2]
      by_cases a3 : 224 ≤ byteAt l 0 ∧ byteAt l 0 < 240
      · have e3 : (byteAt l 0 / 16 == 14) = true := by rw [beq_iff_eq]; omega
        have e4 : (byteAt l 0 / 8 == 30) = false := by rw [beq_eq_false_iff_ne]; omega
        rw [if_pos a3, e3, e4]
        have hv : (decide (ch3 l ≥ 2048) && Utf8.valid (ch3 l : Nat)) = decide (2048 ≤ ch3 l ∧ ¬ (55296 ≤ ch3 l ∧ ch3 l ≤ 57343)) := by
          rw [Bool.eq_iff_iff, Bool.and_eq_true, valid_iff]
          simp only [decide_eq_true_iff]
          omega
        rw [hv]
        by_cases hc : 2048 ≤ ch3 l ∧ ¬ (55296 ≤ ch3 l ∧ ch3 l ≤ 57343)
        · rw [decide_eq_true hc]
          simp only [eq_true hc]
          cases isCont l 1 <;> cases isCont l 2 <;> simp
        · rw [decide_eq_false hc]
          simp only [eq_false hc]
          cases isCont l 1 <;> cases isCont l 2 <;> simp
      · rw [if_neg a3]
        have e3 : (byteAt l 0 / 16 == 14) = false := by rw [beq_eq_false_iff_ne]; omega
        rw [e3]
        by_cases a4 : 240 ≤ byteAt l 0 ∧ byteAt l 0 < 248
        · have e4 : (byteAt l 0 / 8 == 30) = true := by rw [beq_iff_eq]; omega
          rw [if_pos a4, e4]
          have hv : (decide (ch4 l ≥ 65536) && Utf8.valid (ch4 l : Nat)) = decide (65536 ≤ ch4 l ∧ ch4 l ≤ 1114111) := by
            rw [Bool.eq_iff_iff, Bool.and_eq_true, valid_iff]
            simp only [decide_eq_true_iff]
            omega
          rw [hv]
          by_cases hc : 65536 ≤ ch4 l ∧ ch4 l ≤ 1114111
          · rw [decide_eq_true hc]
            simp only [eq_true hc]
            cases isCont l 1 <;> cases isCont l 2 <;> cases isCont l 3 <;> simp
          · rw [decide_eq_false hc]
            simp only [eq_false hc]
            cases isCont l 1 <;> cases isCont l 2 <;> cases isCont l 3 <;> simp
        · rw [if_neg a4]
          have e4 : (byteAt l 0 / 8 == 30) = false := by rw [beq_eq_false_iff_ne]; omega
          rw [e4]
          simp

theorem uStep_len {l : List UInt8} {k : Nat} (hl : l ≠ []) (h : uStep l = some k) : 1 ≤ k ∧ k ≤ l.length := by
  have h1 : 1 ≤ l.length := List.length_pos_iff.2 hl
  have hc : ∀ j, isCont l j = true → j < l.length := fun j hj => by
    unfold isCont at hj
    simp only [Bool.and_eq_true, decide_eq_true_iff] at hj
    exact hj.1.1
  unfold uStep at h
  repeat' split at h
  all_goals cases h
  · exact ⟨by omega, h1⟩
  · rename_i hx
    exact ⟨by omega, hc 1 hx.1⟩
  · rename_i hx
    exact ⟨by omega, hc 2 hx.1.2⟩
  · rename_i hx
    exact ⟨by omega, hc 3 hx.1.2.2⟩

theorem validGo_fuel : ∀ (n m : Nat) (l : List UInt8), l.length ≤ n → l.length ≤ m → Lib.validGoD n l = Lib.validGoD m l
  | 0, m, l, hn, _ => by
    have : l = [] := List.length_eq_zero_iff.1 (by omega)
    subst this
    cases m <;> simp [Lib.validGoD]
  | n + 1, 0, l, _, hm => by
    have : l = [] := List.length_eq_zero_iff.1 (by omega)
    subst this
    simp [Lib.validGoD]
  | n + 1, m + 1, l, hn, hm => by
    unfold Lib.validGoD
    by_cases hl : l = []
    · rw [if_pos hl, if_pos hl]
    · rw [if_neg hl, if_neg hl]
      split
      · rfl
      · rename_i hd
        cases hu : uStep l with
        | none => exact absurd ((uStep_decode l).2 hu) hd
        | some k =>
          have h2 := ((uStep_decode l).1 k hu).2
          have h3 := uStep_len hl hu
          rw [h2]
          exact validGo_fuel n m _ (by rw [List.length_drop]; omega) (by rw [List.length_drop]; omega)

theorem valid_step (l : List UInt8) (hl : l ≠ []) : Lib.validD l = match uStep l with
    | none => false
    | some k => Lib.validD (l.drop k) := by
  have h1 : 1 ≤ l.length := List.length_pos_iff.2 hl
  obtain ⟨n, hn⟩ : ∃ n, l.length = n + 1 := ⟨l.length - 1, by omega⟩
  unfold Lib.validD
  rw [hn, Lib.validGoD, if_neg hl]
  cases hu : uStep l with
  | none => rw [if_pos ((uStep_decode l).2 hu)]
  | some k =>
    have h2 := (uStep_decode l).1 k hu
    have h3 := uStep_len hl hu
    rw [if_neg h2.1, h2.2]
    exact validGo_fuel n _ _ (by rw [List.length_drop]; omega) (Nat.le_refl _)

end Orch
