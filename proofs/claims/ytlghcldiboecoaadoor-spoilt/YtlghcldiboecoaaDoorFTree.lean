/- strings.Split, as the library's texts lay it. -/
import Derived.Test.YtlghcldiboecoaaDoorProg
import Derived.Shelf.Strings.Split
import Derived.Test.YtlghcldiboecoaaDoorFRead
import Derived.Maps.OwnSet
import Derived.StringKeys
set_option linter.unusedVariables false
namespace Go.Proofs.YtlghcldiboecoaaDoor
open Go.RowKit

def Tryd.ren146 : Go.Shelf.Ren := ⟨fun | 138 => 84 | 143 => 85 | 146 => 72 | 195 => 86 | 197 => 87 | 217 => 91 | 218 => 88 | 219 => 89 | 221 => 78 | 224 => 93 | 225 => 92 | 260 => 90 | 266 => 95 | 267 => 94 | 268 => 83 | 314 => 96 | n => n, fun | 0 => 0 | 3 => 3 | 4 => 4 | 5 => 5 | 9 => 9 | 21 => 21 | 31 => 23 | 46 => 112 | 51 => 138 | 105 => 135 | 119 => 125 | 138 => 127 | 139 => 128 | 146 => 139 | n => n, fun | 1 => 4 | 3 => 2 | 4 => 3 | n => n⟩
set_option maxRecDepth 100000 in
theorem Tryd.lays146 : Go.Proofs.Lays.n146 Tryd.prog Tryd.ren146 :=
  { mixed := by kernel_rfl,
    f138 := Tryd.func84.trans (congrArg some (by kernel_rfl)),
    f143 := Tryd.func85.trans (congrArg some (by kernel_rfl)),
    f146 := Tryd.func72.trans (congrArg some (by kernel_rfl)),
    f195 := Tryd.func86.trans (congrArg some (by kernel_rfl)),
    f197 := Tryd.func87.trans (congrArg some (by kernel_rfl)),
    f217 := Tryd.func91.trans (congrArg some (by kernel_rfl)),
    f218 := Tryd.func88.trans (congrArg some (by kernel_rfl)),
    f219 := Tryd.func89.trans (congrArg some (by kernel_rfl)),
    f221 := Tryd.func78.trans (congrArg some (by kernel_rfl)),
    f224 := Tryd.func93.trans (congrArg some (by kernel_rfl)),
    f225 := Tryd.func92.trans (congrArg some (by kernel_rfl)),
    f260 := Tryd.func90.trans (congrArg some (by kernel_rfl)),
    f266 := Tryd.func95.trans (congrArg some (by kernel_rfl)),
    f267 := Tryd.func94.trans (congrArg some (by kernel_rfl)),
    f268 := Tryd.func83.trans (congrArg some (by kernel_rfl)),
    f314 := Tryd.func96.trans (congrArg some (by kernel_rfl)),
    t0 := Tryd.underlying0,
    a0 := Tryd.isAgg0,
    z0 := Tryd.sizeOf0,
    v0 := Tryd.zeroValue0,
    t3 := Tryd.underlying3,
    a3 := Tryd.isAgg3,
    z3 := Tryd.sizeOf3,
    v3 := Tryd.zeroValue3,
    t4 := Tryd.underlying4,
    a4 := Tryd.isAgg4,
    z4 := Tryd.sizeOf4,
    v4 := Tryd.zeroValue4,
    t5 := Tryd.underlying5,
    a5 := Tryd.isAgg5,
    z5 := Tryd.sizeOf5,
    v5 := Tryd.zeroValue5,
    t9 := Tryd.underlying9,
    a9 := Tryd.isAgg9,
    z9 := Tryd.sizeOf9,
    v9 := Tryd.zeroValue9,
    t21 := Tryd.underlying21,
    a21 := Tryd.isAgg21,
    z21 := Tryd.sizeOf21,
    v21 := Tryd.zeroValue21,
    t31 := Tryd.underlying23,
    a31 := Tryd.isAgg23,
    z31 := Tryd.sizeOf23,
    v31 := Tryd.zeroValue23,
    t46 := Tryd.underlying112,
    a46 := Tryd.isAgg112,
    z46 := Tryd.sizeOf112,
    v46 := Tryd.zeroValue112,
    t51 := Tryd.underlying138,
    a51 := Tryd.isAgg138,
    z51 := Tryd.sizeOf138,
    v51 := Tryd.zeroValue138,
    t105 := Tryd.underlying135,
    a105 := Tryd.isAgg135,
    z105 := Tryd.sizeOf135,
    v105 := Tryd.zeroValue135,
    t119 := Tryd.underlying125,
    a119 := Tryd.isAgg125,
    z119 := Tryd.sizeOf125,
    t138 := Tryd.underlying127,
    a138 := Tryd.isAgg127,
    z138 := Tryd.sizeOf127,
    v138 := Tryd.zeroValue127,
    t139 := Tryd.underlying128,
    a139 := Tryd.isAgg128,
    z139 := Tryd.sizeOf128,
    v139 := Tryd.zeroValue128,
    t146 := Tryd.underlying139,
    a146 := Tryd.isAgg139,
    z146 := Tryd.sizeOf139,
    v146 := Tryd.zeroValue139,
    g1 := by kernel_rfl,
    g3 := by kernel_rfl,
    g4 := by kernel_rfl }

theorem Tryd.info9' : (Tryd.prog.info? 9).map (fun i => (i.zero, i.size, i.bytes)) = some (some (.string ByteArray.empty), 1, 16) := by kernel_rfl

/-- strings.Split at a separator of one byte or more: the parts, in new memory. -/
theorem split_any (s sep : ByteArray) (m : Int) (w : World) (hs : s.size < 4294967281) (hm : w.cell? ⟨4, 0, none⟩ = some (.int .i64 m)) (h1 : 1 ≤ sep.size) :
    Calls Tryd.prog 72 #[.string s, .string sep] w fun e w' => e = .returned (.slice (some ⟨w.heap.size, 0, none⟩) (Lib.countB s sep + 1) (Lib.countB s sep + 1)) ∧ w' = w.alloc (.cells ((Lib.splitB sep 0 (Lib.countB s sep) s).map Value.string).toArray 9) :=
  Any.strings_Split Tryd.lays146 Tryd.info9' s sep m w hs hm h1
end Go.Proofs.YtlghcldiboecoaaDoor

/- Paths: names, the parts of a path, its parent. -/
set_option linter.unusedVariables false
namespace Go.Proofs.YtlghcldiboecoaaDoor
open Go.RowKit

/-- A byte that may stand in a name. -/
def nameC (c : Nat) : Bool := decide (97 ≤ c ∧ c ≤ 122) || decide (48 ≤ c ∧ c ≤ 57) || decide (c = 45) || decide (c = 46)
/-- A name. -/
def isNm (s : ByteArray) : Bool := decide (s ≠ ⟨#[]⟩ ∧ s ≠ ⟨#[46]⟩ ∧ s ≠ ⟨#[46, 46]⟩) && s.data.toList.all fun c => nameC c.toNat

set_option maxRecDepth 8000 in
set_option maxHeartbeats 1000000 in
theorem ofName_any (w : World) (c : Nat) (hc : c < 256) : Calls Tryd.prog 79 #[.int .u8 c] w fun e w' => e = .returned (.bool (nameC c)) ∧ w' = w := by
  by_cases h1 : (97 : Int) ≤ c <;> by_cases h2 : (c : Int) ≤ 122 <;> by_cases h3 : (48 : Int) ≤ c <;> by_cases h4 : (c : Int) ≤ 57 <;> by_cases h5 : (c : Int) = 45 <;> by_cases h6 : (c : Int) = 46
  all_goals first
    | (exfalso; omega)
    | (rw [show nameC c = true by simp [nameC]; omega]
       go_enter Tryd.func79, Tryd.ntmps79
       go_wp2
       go_ret
       exact ⟨by first | rfl | simp_all, rfl⟩)
    | (rw [show nameC c = false by simp [nameC]; omega]
       go_enter Tryd.func79, Tryd.ntmps79
       go_wp2
       go_ret
       exact ⟨by first | rfl | simp_all, rfl⟩)

theorem name_byte (s : ByteArray) (k : Nat) (h : k < s.size) : (s[k]'h).toNat < 256 := UInt8.toNat_lt _

theorem all_take (l : List UInt8) (k : Nat) (h : k < l.length) : (l.take (k + 1)).all (fun c => nameC c.toNat) = ((l.take k).all (fun c => nameC c.toNat) && nameC l[k].toNat) := by
  rw [List.take_succ_eq_append_getElem h, List.all_append]
  simp

theorem toList_lit (s : ByteArray) (l : List UInt8) : (s.toList == l) = decide (s = ⟨l.toArray⟩) := by
  rw [Lib.toList_data, Bool.eq_iff_iff, beq_iff_eq, decide_eq_true_iff]
  constructor
  · intro h
    apply ByteArray.ext
    apply Array.toList_inj.1
    simpa using h
  · intro h
    rw [h]

set_option maxRecDepth 8000 in
set_option maxHeartbeats 2000000 in
theorem isName_any (w : World) (s : ByteArray) (hs : s.size ≤ 1000) : Calls Tryd.prog 73 #[.string s] w fun e w' => e = .returned (.bool (isNm s)) ∧ w' = w := by
  by_cases h0 : s.toList == []
  · have hn : isNm s = false := by
      rw [toList_lit] at h0
      simp [isNm, of_decide_eq_true h0]
    rw [hn]
    go_enter Tryd.func73, Tryd.ntmps73
    go_wp2
    go_ret
    exact ⟨rfl, rfl⟩
  · by_cases h1 : s.toList == [46]
    · have hn : isNm s = false := by
        rw [toList_lit] at h1
        simp [isNm, of_decide_eq_true h1]
      rw [hn]
      go_enter Tryd.func73, Tryd.ntmps73
      go_wp2
      go_ret
      exact ⟨rfl, rfl⟩
    · by_cases h2 : s.toList == [46, 46]
      · have hn : isNm s = false := by
          rw [toList_lit] at h2
          simp [isNm, of_decide_eq_true h2]
        rw [hn]
        go_enter Tryd.func73, Tryd.ntmps73
        go_wp2
        go_ret
        exact ⟨rfl, rfl⟩
      · have HN : Hid (isNm s = s.data.toList.all fun c => nameC c.toNat) := by
          show _ = _
          have g0 := h0
          have g1 := h1
          have g2 := h2
          rw [toList_lit, decide_eq_true_iff] at g0 g1 g2
          unfold isNm
          rw [decide_eq_true ⟨g0, g1, g2⟩, Bool.true_and]
        have hsl : s.data.toList.length = s.size := (Lib.size_eq s).symm
        go_enter Tryd.func73, Tryd.ntmps73
        go_wp2
        go_loop [16] (fun i => ∃ k : Nat, k ≤ s.size ∧ i = .int .i64 k ∧ Hid ((s.data.toList.take k).all (fun c => nameC c.toNat) = true)) (fun i => s.size - (intOf i).toNat)
        case atStart => exact ⟨0, Nat.zero_le _, rfl, by show _ = _; simp⟩
        case round =>
          obtain ⟨k, hk, rfl, HA⟩ := hrel
          by_cases hlt : k < s.size
          · have hkz : (k : Int) < (s.size : Int) := by omega
            have hlt' : k < s.data.toList.length := by omega
            have hst : Hid ((s.data.toList.take (k + 1)).all (fun c => nameC c.toNat) = nameC s[k].toNat) := by
              show _ = _
              rw [all_take _ _ hlt', HA.out, Bool.true_and]
              rfl
            cases hc : nameC s[k].toNat with
            | true =>
              rw [hc] at hst
              go_wp2_with (go_at_call 79; refine (ofName_any w s[k].toNat (UInt8.toNat_lt _)).mono ?_; rintro e w1 ⟨rfl, rfl⟩; rw [hc])
              go_round
              case rel => exact ⟨k + 1, by omega, by go_num, hst⟩
              case measure => first | (simp [intOf]; done) | (simp [intOf]; omega)
            | false =>
              have HF : Hid (isNm s = false) := by
                show _ = _
                rw [HN.out]
                have h3 := hst.out
                rw [hc] at h3
                rw [← List.take_append_drop (k + 1) s.data.toList, List.all_append, h3, Bool.false_and]
              go_wp2_with (go_at_call 79; refine (ofName_any w s[k].toNat (UInt8.toNat_lt _)).mono ?_; rintro e w1 ⟨rfl, rfl⟩; rw [hc])
              go_ret
              exact ⟨ret_bool HF.out.symm, rfl⟩
          · have hkz : ¬ (k : Int) < (s.size : Int) := by omega
            have HF : Hid (isNm s = true) := by
              show _ = _
              rw [HN.out, ← HA.out, List.take_of_length_le (by omega)]
            go_wp2
            go_ret
            exact ⟨ret_bool HF.out.symm, rfl⟩
end Go.Proofs.YtlghcldiboecoaaDoor

/- Paths, whole. -/
set_option linter.unusedVariables false
namespace Go.Proofs.YtlghcldiboecoaaDoor
open Go.RowKit

/-- A slash stands first. -/
def slash1 (s : ByteArray) : Bool := decide (1 ≤ s.size) && ((s.extract 0 1).toList == [47])

set_option maxRecDepth 8000 in
set_option maxHeartbeats 1000000 in
theorem hasPrefix_any (w : World) (s : ByteArray) : Calls Tryd.prog 82 #[.string s, .string ⟨#[47]⟩] w fun e w' => e = .returned (.bool (slash1 s)) ∧ w' = w := by
  by_cases h1 : (1 : Int) ≤ s.size
  · have h1' : 1 ≤ s.size := by omega
    cases h2 : ((s.extract 0 1).toList == [47]) with
    | true =>
      rw [show slash1 s = true by simp only [slash1, h2, decide_eq_true h1']; rfl]
      go_enter Tryd.func82, Tryd.ntmps82
      go_wp2
      go_ret
      exact ⟨ret_bool (by first | rfl | exact h2), rfl⟩
    | false =>
      rw [show slash1 s = false by simp only [slash1, h2, decide_eq_true h1']; rfl]
      go_enter Tryd.func82, Tryd.ntmps82
      go_wp2
      go_ret
      exact ⟨ret_bool (by first | rfl | exact h2), rfl⟩
  · have h1' : ¬ 1 ≤ s.size := by omega
    rw [show slash1 s = false by simp only [slash1, decide_eq_false h1']; rfl]
    go_enter Tryd.func82, Tryd.ntmps82
    go_wp2
    go_ret
    exact ⟨rfl, rfl⟩

set_option maxRecDepth 8000 in
set_option maxHeartbeats 1000000 in
theorem cutPrefix_in (w : World) (s : ByteArray) : Calls Tryd.prog 77 #[.string s, .string ⟨#[47]⟩] w fun e w' => e = .returned (if slash1 s = true then .tuple #[.string (s.extract 1 s.size), .bool true] else .tuple #[.string s, .bool false]) ∧ w' = w := by
  cases h : slash1 s with
  | true =>
    have hz : (1 : Int) ≤ s.size := by
      have : 1 ≤ s.size := by
        unfold slash1 at h
        rw [Bool.and_eq_true] at h
        exact of_decide_eq_true h.1
      omega
    go_enter Tryd.func77, Tryd.ntmps77
    go_wp2_with (go_at_call 82; refine (hasPrefix_any w s).mono ?_; rintro e w1 ⟨rfl, rfl⟩; rw [h])
    exact bodyPost_ret (v := .tuple #[.string (s.extract 1 s.size), .bool true]) (by simp [results, Tryd.results77, go_sem]) rfl ⟨rfl, rfl⟩
  | false =>
    go_enter Tryd.func77, Tryd.ntmps77
    go_wp2_with (go_at_call 82; refine (hasPrefix_any w s).mono ?_; rintro e w1 ⟨rfl, rfl⟩; rw [h])
    exact bodyPost_ret (v := .tuple #[.string s, .bool false]) (by simp [results, Tryd.results77, go_sem]) rfl ⟨rfl, rfl⟩

set_option maxRecDepth 8000 in
set_option maxHeartbeats 1000000 in
theorem cutPrefix_any (w : World) (s : ByteArray) : Calls Tryd.prog 71 #[.string s, .string ⟨#[47]⟩] w fun e w' => e = .returned (if slash1 s = true then .tuple #[.string (s.extract 1 s.size), .bool true] else .tuple #[.string s, .bool false]) ∧ w' = w := by
  have hc := cutPrefix_in w s
  cases h : slash1 s with
  | true =>
    rw [h] at hc
    have HC : Hid (Calls Tryd.prog 77 #[.string s, .string ⟨#[47]⟩] w fun e w' => e = .returned (.tuple #[.string (s.extract 1 s.size), .bool true]) ∧ w' = w) := hc
    clear hc
    go_enter Tryd.func71, Tryd.ntmps71
    go_wp2_with (go_at_call 77; refine HC.out.mono ?_; rintro e w1 ⟨rfl, rfl⟩)
    exact bodyPost_ret (v := .tuple #[.string (s.extract 1 s.size), .bool true]) (by simp [results, Tryd.results71, go_sem]) rfl ⟨rfl, rfl⟩
  | false =>
    rw [h] at hc
    have HC : Hid (Calls Tryd.prog 77 #[.string s, .string ⟨#[47]⟩] w fun e w' => e = .returned (.tuple #[.string s, .bool false]) ∧ w' = w) := hc
    clear hc
    go_enter Tryd.func71, Tryd.ntmps71
    go_wp2_with (go_at_call 77; refine HC.out.mono ?_; rintro e w1 ⟨rfl, rfl⟩)
    exact bodyPost_ret (v := .tuple #[.string s, .bool false]) (by simp [results, Tryd.results71, go_sem]) rfl ⟨rfl, rfl⟩

/-- The names of a path, behind its first slash. -/
def names (s : ByteArray) : List ByteArray := Lib.splitB ⟨#[47]⟩ 0 (Lib.countB s ⟨#[47]⟩) s

theorem splitB_size (sep : ByteArray) : ∀ (k : Nat) (s p : ByteArray), p ∈ Lib.splitB sep 0 k s → p.size ≤ s.size
  | 0, s, p, h => by
    simp only [Lib.splitB, List.mem_singleton] at h
    rw [h]
    exact Nat.le_refl _
  | k + 1, s, p, h => by
    unfold Lib.splitB at h
    split at h
    · simp only [List.mem_singleton] at h
      rw [h]
      exact Nat.le_refl _
    · rcases List.mem_cons.1 h with h | h
      · rw [h, ByteArray.size_extract]
        omega
      · have := splitB_size sep k _ p h
        rw [ByteArray.size_extract] at this
        omega

/-- A path. -/
def isPa (s : ByteArray) : Bool := decide (s.size ≤ 24) && ((s.toList == [47]) || (slash1 s && (names (s.extract 1 s.size)).all isNm))

theorem names_len (s : ByteArray) : (names s).length = Lib.countB s ⟨#[47]⟩ + 1 := Lib.splitB_all ⟨#[47]⟩ (by decide) 0 _ s rfl

set_option maxRecDepth 8000 in
set_option maxHeartbeats 2000000 in
theorem isPath_any (w : World) (m : Int) (hm : w.cell? ⟨4, 0, none⟩ = some (.int .i64 m)) (s : ByteArray) (hs : s.size ≤ 140737488355328) : Calls Tryd.prog 64 #[.string s] w fun e w' => e = .returned (.bool (isPa s)) ∧ Below w.heap.size w w' := by
  by_cases h0 : (24 : Int) < s.size
  · rw [show isPa s = false by simp only [isPa, decide_eq_false (show ¬ s.size ≤ 24 by omega)]; rfl]
    go_enter Tryd.func64, Tryd.ntmps64
    go_wp2
    go_ret
    exact ⟨rfl, Below.refl _ _⟩
  · cases h1 : (s.toList == [47]) with
    | true =>
      rw [show isPa s = true by simp only [isPa, decide_eq_true (show s.size ≤ 24 by omega), h1]; rfl]
      go_enter Tryd.func64, Tryd.ntmps64
      go_wp2
      go_ret
      exact ⟨rfl, Below.refl _ _⟩
    | false =>
      have hcp := cutPrefix_any w s
      cases h2 : slash1 s with
      | false =>
        rw [h2] at hcp
        have HC : Hid (Calls Tryd.prog 71 #[.string s, .string ⟨#[47]⟩] w fun e w' => e = .returned (.tuple #[.string s, .bool false]) ∧ w' = w) := hcp
        rw [show isPa s = false by simp only [isPa, decide_eq_true (show s.size ≤ 24 by omega), h1, h2]; rfl]
        clear hcp
        go_enter Tryd.func64, Tryd.ntmps64
        go_wp2_with (go_at_call 71; refine HC.out.mono ?_; rintro e w1 ⟨rfl, rfl⟩)
        go_ret
        exact ⟨rfl, Below.refl _ _⟩
      | true =>
        rw [h2] at hcp
        have HC : Hid (Calls Tryd.prog 71 #[.string s, .string ⟨#[47]⟩] w fun e w' => e = .returned (.tuple #[.string (s.extract 1 s.size), .bool true]) ∧ w' = w) := hcp
        have HIS : Hid (isPa s = (names (s.extract 1 s.size)).all isNm) := by
          show _ = _
          simp only [isPa, decide_eq_true (show s.size ≤ 24 by omega), h1, h2]
          rfl
        have hr : (s.extract 1 s.size).size ≤ 24 := by rw [ByteArray.size_extract]; omega
        generalize s.extract 1 s.size = r at *
        have HSP := hide (split_any r ⟨#[47]⟩ m w (by omega) hm (by decide))
        have hnl := names_len r
        have hcl : Lib.countB r ⟨#[47]⟩ ≤ 24 := Nat.le_trans (Lib.countB_le ⟨#[47]⟩ (by decide) r.size r (Nat.le_refl _)) hr
        have hnew := heap_alloc_new w (.cells ((names r).map Value.string).toArray 9)
        have HCELL : Hid (∀ i (h : i < (names r).length), (w.alloc (.cells ((names r).map Value.string).toArray 9)).cell? ⟨w.heap.size, i, none⟩ = some (.string (names r)[i])) := fun i h => by
          refine cellOf hnew ?_
          simp [h]
        have HNS : Hid (∀ i (h : i < (names r).length), ((names r)[i]).size ≤ 1000) := fun i h => Nat.le_trans (splitB_size _ _ _ _ (List.getElem_mem h)) (by omega)
        have HB : Hid (Below w.heap.size w (w.alloc (.cells ((names r).map Value.string).toArray 9))) := below1 _ _
        have HWN : Hid (w.alloc (.cells ((Lib.splitB ⟨#[47]⟩ 0 (Lib.countB r ⟨#[47]⟩) r).map Value.string).toArray 9) = w.alloc (.cells ((names r).map Value.string).toArray 9)) := rfl
        clear hcp hnew
        go_enter Tryd.func64, Tryd.ntmps64
        go_wp2_with (first
          | (go_at_call 71; refine HC.out.mono ?_; rintro e w1 ⟨rfl, hw1⟩; have hw2 := hw1.symm; clear hw1; subst hw2)
          | (go_at_call 72; refine HSP.out.mono ?_; rintro e w1 ⟨rfl, rfl⟩; rw [HWN.out]))
        have hnl24 : (names r).length ≤ 25 := by omega
        have HFIN : Hid (∀ {x : World}, x = w.alloc (.cells ((names r).map Value.string).toArray 9) → Below w.heap.size w x) := fun h => by rw [h]; exact HB.out
        have hB := HB.out
        clear HSP HC HWN hcl hm HFIN HB
        generalize w.alloc (.cells ((names r).map Value.string).toArray 9) = W at *
        have HB := hide hB
        clear hB
        generalize names r = L at *
        generalize Lib.countB r ⟨#[47]⟩ = C at *
        go_loop [22] (fun i => ∃ k : Nat, k ≤ L.length ∧ i = .int .i64 k ∧ Hid ((L.take k).all isNm = true)) (fun i => L.length - (intOf i).toNat)
        case atStart => exact ⟨0, Nat.zero_le _, rfl, by show _ = _; simp⟩
        case round =>
          obtain ⟨k, hk, rfl, HA⟩ := hrel
          by_cases hlt : k < L.length
          · have hkz : (k : Int) < (C : Int) + 1 := by omega
            have hck := HCELL.out k hlt
            have hst : Hid ((L.take (k + 1)).all isNm = isNm L[k]) := by
              show _ = _
              rw [List.take_succ_eq_append_getElem hlt, List.all_append, HA.out, Bool.true_and]
              simp
            have HNM := hide (isName_any W L[k] (HNS.out k hlt))
            generalize L[k] = P at *
            cases hc : isNm P with
            | true =>
              rw [hc] at hst HNM
              go_wp2_with (go_at_call 73; refine HNM.out.mono ?_; rintro e w1 ⟨rfl, hw1⟩; have hw2 := hw1.symm; clear hw1; subst hw2)
              go_round
              case rel => exact ⟨k + 1, by omega, by go_num, hst⟩
              case measure => first | (simp [intOf]; done) | (simp [intOf]; omega)
            | false =>
              have HF : Hid (isPa s = false) := by
                show _ = _
                have h3 := hst.out
                rw [hc] at h3
                rw [HIS.out, ← List.take_append_drop (k + 1) L, List.all_append, h3, Bool.false_and]
              rw [hc] at HNM
              go_wp2_with (go_at_call 73; refine HNM.out.mono ?_; rintro e w1 ⟨rfl, hw1⟩; have hw2 := hw1.symm; clear hw1; subst hw2)
              go_ret
              exact ⟨ret_bool HF.out.symm, HB.out⟩
          · have hkz : ¬ (k : Int) < (C : Int) + 1 := by omega
            have HF : Hid (isPa s = true) := by
              show _ = _
              rw [HIS.out, ← HA.out, List.take_of_length_le (by omega)]
            go_wp2
            go_ret
            exact ⟨ret_bool HF.out.symm, HB.out⟩
end Go.Proofs.YtlghcldiboecoaaDoor

/- Notes, nodes for themselves, the parent of a path. -/
set_option linter.unusedVariables false
namespace Go.Proofs.YtlghcldiboecoaaDoor
open Go.RowKit

/-- The last place of a slash among the first k bytes; -1, if there is none. -/
def lastIx (l : List UInt8) : Nat → Int
  | 0 => -1
  | k + 1 => if l[k]? = some 47 then (k : Int) else lastIx l k

theorem lastIx_le (l : List UInt8) : ∀ k, -1 ≤ lastIx l k ∧ lastIx l k < (k : Int)
  | 0 => by simp [lastIx]
  | k + 1 => by
    have := lastIx_le l k
    unfold lastIx
    split <;> omega

theorem lastIx_pos (l : List UInt8) (h : l[0]? = some 47) : ∀ k, 0 < k → 0 ≤ lastIx l k
  | 0, h0 => by omega
  | k + 1, _ => by
    unfold lastIx
    split
    · omega
    · rename_i hn
      cases k with
      | zero => exact absurd h hn
      | succ k => exact lastIx_pos l h (k + 1) (by omega)

set_option maxRecDepth 8000 in
set_option maxHeartbeats 1000000 in
theorem lastByte_in (w : World) (s : ByteArray) (hs : s.size ≤ 140737488355328) : Calls Tryd.prog 80 #[.string s, .int .u8 47] w fun e w' => e = .returned (.int .i64 (lastIx s.data.toList s.size)) ∧ w' = w := by
  have hsl : s.data.toList.length = s.size := (Lib.size_eq s).symm
  go_enter Tryd.func80, Tryd.ntmps80
  go_wp2
  go_loop [5] (fun vi => ∃ k : Nat, k ≤ s.size ∧ vi = .int .i64 ((k : Int) - 1) ∧ Hid (lastIx s.data.toList k = lastIx s.data.toList s.size)) (fun vi => (intOf vi + 1).toNat)
  case atStart => exact ⟨s.size, Nat.le_refl _, rfl, rfl⟩
  case round =>
    obtain ⟨k, hk, rfl, HH⟩ := hrel
    cases k with
    | zero =>
      go_wp2
      go_ret
      exact ⟨ret_int (by rw [← HH.out]; rfl), rfl⟩
    | succ k =>
      rw [show ((k + 1 : Nat) : Int) - 1 = (k : Int) by omega]
      have hlt : k < s.size := by omega
      have hget : s.data.toList[k]? = some s[k] := by
        rw [List.getElem?_eq_getElem (by omega)]
        rfl
      have hc8 : (s[k]).toNat < 256 := UInt8.toNat_lt _
      by_cases hc : ((s[k]).toNat : Int) = 47
      · have HR : Hid (lastIx s.data.toList s.size = (k : Int)) := by
          show _ = _
          rw [← HH.out]
          unfold lastIx
          rw [hget, if_pos]
          congr 1
          apply UInt8.toNat_inj.1
          show (s[k]).toNat = 47
          omega
        go_wp2
        go_ret
        exact ⟨ret_int HR.out.symm, rfl⟩
      · have HR : Hid (lastIx s.data.toList k = lastIx s.data.toList s.size) := by
          show _ = _
          rw [← HH.out]
          conv => rhs; unfold lastIx
          rw [hget, if_neg]
          intro e
          injection e with e
          rw [e] at hc
          exact hc rfl
        go_wp2
        go_round
        case rel => exact ⟨k, by omega, by first | rfl | go_num, HR⟩
        case measure => first | (simp [intOf]; done) | (simp [intOf]; omega)

set_option maxRecDepth 8000 in
set_option maxHeartbeats 1000000 in
theorem lastByte_any (w : World) (s : ByteArray) (hs : s.size ≤ 140737488355328) : Calls Tryd.prog 74 #[.string s, .int .u8 47] w fun e w' => e = .returned (.int .i64 (lastIx s.data.toList s.size)) ∧ w' = w := by
  go_enter Tryd.func74, Tryd.ntmps74
  go_wp2_with (go_at_call 80; refine (lastByte_in w s hs).mono ?_; rintro e w1 ⟨rfl, rfl⟩)
  go_ret
  exact ⟨rfl, rfl⟩

/-- The parent of a path. -/
def parentB (s : ByteArray) : ByteArray := if lastIx s.data.toList s.size = 0 then ⟨#[47]⟩ else s.extract 0 (lastIx s.data.toList s.size).toNat

theorem slash_get {s : ByteArray} (h : slash1 s = true) : s.data.toList[0]? = some 47 ∧ 0 < s.size := by
  unfold slash1 at h
  rw [Bool.and_eq_true, decide_eq_true_iff, beq_iff_eq, Lib.toList_data] at h
  obtain ⟨h1, h2⟩ := h
  refine ⟨?_, by omega⟩
  have := congrArg (fun l => l[0]?) h2
  simpa using this

set_option maxRecDepth 8000 in
set_option maxHeartbeats 1000000 in
theorem parent_any (w : World) (s : ByteArray) (hs : s.size ≤ 140737488355328) (hsl : slash1 s = true) : Calls Tryd.prog 66 #[.string s] w fun e w' => e = .returned (.string (parentB s)) ∧ w' = w := by
  obtain ⟨h0, h1⟩ := slash_get hsl
  have hp := lastIx_pos _ h0 s.size h1
  have hle := (lastIx_le s.data.toList s.size).2
  have HL := hide (lastByte_any w s hs)
  have HP : Hid (parentB s = if lastIx s.data.toList s.size = 0 then ⟨#[47]⟩ else s.extract 0 (lastIx s.data.toList s.size).toNat) := rfl
  obtain ⟨i, hi⟩ : ∃ i : Nat, lastIx s.data.toList s.size = (i : Int) := ⟨(lastIx s.data.toList s.size).toNat, by omega⟩
  rw [hi] at HL HP hle
  by_cases hz : (i : Int) = 0
  · rw [if_pos hz] at HP
    go_enter Tryd.func66, Tryd.ntmps66
    go_wp2_with (go_at_call 74; refine HL.out.mono ?_; rintro e w1 ⟨rfl, rfl⟩)
    go_ret
    exact ⟨by rw [HP.out]; rfl, rfl⟩
  · rw [if_neg hz] at HP
    have hiz : (i : Int) ≤ (s.size : Int) := by omega
    go_enter Tryd.func66, Tryd.ntmps66
    go_wp2_with (go_at_call 74; refine HL.out.mono ?_; rintro e w1 ⟨rfl, rfl⟩)
    go_ret
    exact ⟨by rw [HP.out]; first | rfl | simp, rfl⟩

/-- A note. -/
def isNt (s : ByteArray) : Bool := decide (s.size ≤ 10) && validB s

set_option maxRecDepth 8000 in
set_option maxHeartbeats 1000000 in
theorem isNote_any {Tabs : World → Prop} (U : Utf validB Tabs) (w : World) (hT : Tabs w) (s : ByteArray) : Calls Tryd.prog 65 #[.string s] w fun e w' => e = .returned (.bool (isNt s)) ∧ Below w.heap.size w w' := by
  by_cases h : (s.size : Int) ≤ 10
  · have HV := hide (U.gives s w hT (by omega))
    have HN : Hid (isNt s = validB s) := by show _ = _; simp only [isNt, decide_eq_true (show s.size ≤ 10 by omega)]; rfl
    go_enter Tryd.func65, Tryd.ntmps65
    go_wp2_with (go_at_call 68; refine HV.out.mono ?_; rintro e w1 ⟨rfl, hb⟩; have HB := hide hb; clear hb)
    go_ret
    exact ⟨ret_bool (by rw [HN.out]), HB.out⟩
  · rw [show isNt s = false by simp only [isNt, decide_eq_false (show ¬ s.size ≤ 10 by omega)]; rfl]
    go_enter Tryd.func65, Tryd.ntmps65
    go_wp2
    go_ret
    exact ⟨rfl, Below.refl _ _⟩
end Go.Proofs.YtlghcldiboecoaaDoor

/- A node for itself. -/
set_option linter.unusedVariables false
namespace Go.Proofs.YtlghcldiboecoaaDoor
open Go.RowKit

/-- A node that may stand in a tree, for itself. -/
def isNd (x : Orch.Node) : Bool := isPa x.path && (decide (x.data.size ≤ 40) && (isNt x.note && (decide (0 ≤ x.made) && (decide (x.made ≤ x.changed) && (decide (0 ≤ x.version) && decide (x.version ≤ 2147483647))))))

section
variable {Tabs : World → Prop}
set_option maxRecDepth 8000 in
set_option maxHeartbeats 2000000 in
theorem nd_0 (U : Utf validB Tabs) (w : World) (hT : Tabs w) (mx : Int) (hm : w.cell? ⟨4, 0, none⟩ = some (.int .i64 mx)) (h4 : 4 < w.heap.size) (x : Orch.Node) (hps : x.path.size ≤ 140737488355328) (hds : x.data.size ≤ 140737488355328) (hp : isPa x.path = false) :
    Calls Tryd.prog 53 #[ndv x.path x.data x.note x.made x.changed x.version] w fun e w' => e = .returned (.bool false) ∧ Below w.heap.size w w' := by
  obtain ⟨p, d, t, m, c, v⟩ := x
  have hn0 := heap_alloc_new w (.cells #[.string p, .string d, .string t, .int .i64 m, .int .i64 c, .int .i64 v] 69)
  have hb0 := below1 w (.cells #[.string p, .string d, .string t, .int .i64 m, .int .i64 c, .int .i64 v] 69)
  have HP := hide (isPath_any _ mx ((hb0.cell (p := ⟨4, 0, none⟩) h4).trans hm) p hps)
  have HN : Hid (∀ W, Below w.heap.size w W → Calls Tryd.prog 65 #[.string t] W fun e w' => e = .returned (.bool (isNt t)) ∧ Below W.heap.size W w') := fun W h => isNote_any U W (U.kept (U.size hT) h hT) t
  have HB0 := hide hb0
  have HN0 := hide hn0
  have HSZ : Hid (w.heap.size < (w.alloc (.cells #[.string p, .string d, .string t, .int .i64 m, .int .i64 c, .int .i64 v] 69)).heap.size) := by show _ < _; simp
  clear hb0 hn0
  go_enter Tryd.func53, Tryd.ntmps53
  go_wp2_with ((go_at_call 64; refine HP.out.mono ?_; rintro e w1 ⟨rfl, hb1⟩; rw [hp]; have HB1 : Hid (Below w.heap.size w w1) := HB0.out.trans (hb1.mono (Nat.le_of_lt HSZ.out)); have hC := (hb1.block _ HSZ.out).trans HN0.out; have k1 := cellOf (j := 1) hC rfl; have k2 := cellOf (j := 2) hC rfl; have k3 := cellOf (j := 3) hC rfl; have k4 := cellOf (j := 4) hC rfl; have k5 := cellOf (j := 5) hC rfl; have HC1 := hide hC; clear hb1 hC))
  go_ret
  exact ⟨rfl, HB1.out⟩

set_option maxRecDepth 8000 in
set_option maxHeartbeats 2000000 in
theorem nd_1 (U : Utf validB Tabs) (w : World) (hT : Tabs w) (mx : Int) (hm : w.cell? ⟨4, 0, none⟩ = some (.int .i64 mx)) (h4 : 4 < w.heap.size) (x : Orch.Node) (hps : x.path.size ≤ 140737488355328) (hds : x.data.size ≤ 140737488355328) (hp : isPa x.path = true) (hd : ¬ (x.data.size : Int) ≤ 40) :
    Calls Tryd.prog 53 #[ndv x.path x.data x.note x.made x.changed x.version] w fun e w' => e = .returned (.bool false) ∧ Below w.heap.size w w' := by
  obtain ⟨p, d, t, m, c, v⟩ := x
  have hn0 := heap_alloc_new w (.cells #[.string p, .string d, .string t, .int .i64 m, .int .i64 c, .int .i64 v] 69)
  have hb0 := below1 w (.cells #[.string p, .string d, .string t, .int .i64 m, .int .i64 c, .int .i64 v] 69)
  have HP := hide (isPath_any _ mx ((hb0.cell (p := ⟨4, 0, none⟩) h4).trans hm) p hps)
  have HN : Hid (∀ W, Below w.heap.size w W → Calls Tryd.prog 65 #[.string t] W fun e w' => e = .returned (.bool (isNt t)) ∧ Below W.heap.size W w') := fun W h => isNote_any U W (U.kept (U.size hT) h hT) t
  have HB0 := hide hb0
  have HN0 := hide hn0
  have HSZ : Hid (w.heap.size < (w.alloc (.cells #[.string p, .string d, .string t, .int .i64 m, .int .i64 c, .int .i64 v] 69)).heap.size) := by show _ < _; simp
  clear hb0 hn0
  go_enter Tryd.func53, Tryd.ntmps53
  go_wp2_with ((go_at_call 64; refine HP.out.mono ?_; rintro e w1 ⟨rfl, hb1⟩; rw [hp]; have HB1 : Hid (Below w.heap.size w w1) := HB0.out.trans (hb1.mono (Nat.le_of_lt HSZ.out)); have hC := (hb1.block _ HSZ.out).trans HN0.out; have k1 := cellOf (j := 1) hC rfl; have k2 := cellOf (j := 2) hC rfl; have k3 := cellOf (j := 3) hC rfl; have k4 := cellOf (j := 4) hC rfl; have k5 := cellOf (j := 5) hC rfl; have HC1 := hide hC; clear hb1 hC))
  go_ret
  exact ⟨rfl, HB1.out⟩

set_option maxRecDepth 8000 in
set_option maxHeartbeats 2000000 in
theorem nd_2 (U : Utf validB Tabs) (w : World) (hT : Tabs w) (mx : Int) (hm : w.cell? ⟨4, 0, none⟩ = some (.int .i64 mx)) (h4 : 4 < w.heap.size) (x : Orch.Node) (hps : x.path.size ≤ 140737488355328) (hds : x.data.size ≤ 140737488355328) (hp : isPa x.path = true) (hd : (x.data.size : Int) ≤ 40) (hn : isNt x.note = false) :
    Calls Tryd.prog 53 #[ndv x.path x.data x.note x.made x.changed x.version] w fun e w' => e = .returned (.bool false) ∧ Below w.heap.size w w' := by
  obtain ⟨p, d, t, m, c, v⟩ := x
  have hn0 := heap_alloc_new w (.cells #[.string p, .string d, .string t, .int .i64 m, .int .i64 c, .int .i64 v] 69)
  have hb0 := below1 w (.cells #[.string p, .string d, .string t, .int .i64 m, .int .i64 c, .int .i64 v] 69)
  have HP := hide (isPath_any _ mx ((hb0.cell (p := ⟨4, 0, none⟩) h4).trans hm) p hps)
  have HN : Hid (∀ W, Below w.heap.size w W → Calls Tryd.prog 65 #[.string t] W fun e w' => e = .returned (.bool (isNt t)) ∧ Below W.heap.size W w') := fun W h => isNote_any U W (U.kept (U.size hT) h hT) t
  have HB0 := hide hb0
  have HN0 := hide hn0
  have HSZ : Hid (w.heap.size < (w.alloc (.cells #[.string p, .string d, .string t, .int .i64 m, .int .i64 c, .int .i64 v] 69)).heap.size) := by show _ < _; simp
  clear hb0 hn0
  go_enter Tryd.func53, Tryd.ntmps53
  go_wp2_with (first
    | (go_at_call 64; refine HP.out.mono ?_; rintro e w1 ⟨rfl, hb1⟩; rw [hp]; have HB1 : Hid (Below w.heap.size w w1) := HB0.out.trans (hb1.mono (Nat.le_of_lt HSZ.out)); have hC := (hb1.block _ HSZ.out).trans HN0.out; have k1 := cellOf (j := 1) hC rfl; have k2 := cellOf (j := 2) hC rfl; have k3 := cellOf (j := 3) hC rfl; have k4 := cellOf (j := 4) hC rfl; have k5 := cellOf (j := 5) hC rfl; have HC1 := hide hC; clear hb1 hC)
    | (go_at_call 65; refine (HN.out _ HB1.out).mono ?_; rintro e w2 ⟨rfl, hb2⟩; rw [hn]; have HB2 : Hid (Below w.heap.size w w2) := HB1.out.trans (hb2.mono HB1.out.size); have hC := (hb2.block _ (ltOf HC1.out)).trans HC1.out; have q3 := cellOf (j := 3) hC rfl; have q4 := cellOf (j := 4) hC rfl; have q5 := cellOf (j := 5) hC rfl; clear hb2 hC))
  go_ret
  exact ⟨rfl, HB2.out⟩

set_option maxRecDepth 8000 in
set_option maxHeartbeats 2000000 in
theorem nd_3 (U : Utf validB Tabs) (w : World) (hT : Tabs w) (mx : Int) (hm : w.cell? ⟨4, 0, none⟩ = some (.int .i64 mx)) (h4 : 4 < w.heap.size) (x : Orch.Node) (hps : x.path.size ≤ 140737488355328) (hds : x.data.size ≤ 140737488355328) (hp : isPa x.path = true) (hd : (x.data.size : Int) ≤ 40) (hn : isNt x.note = true) (h5 : ¬ 0 ≤ x.made) :
    Calls Tryd.prog 53 #[ndv x.path x.data x.note x.made x.changed x.version] w fun e w' => e = .returned (.bool false) ∧ Below w.heap.size w w' := by
  obtain ⟨p, d, t, m, c, v⟩ := x
  have hn0 := heap_alloc_new w (.cells #[.string p, .string d, .string t, .int .i64 m, .int .i64 c, .int .i64 v] 69)
  have hb0 := below1 w (.cells #[.string p, .string d, .string t, .int .i64 m, .int .i64 c, .int .i64 v] 69)
  have HP := hide (isPath_any _ mx ((hb0.cell (p := ⟨4, 0, none⟩) h4).trans hm) p hps)
  have HN : Hid (∀ W, Below w.heap.size w W → Calls Tryd.prog 65 #[.string t] W fun e w' => e = .returned (.bool (isNt t)) ∧ Below W.heap.size W w') := fun W h => isNote_any U W (U.kept (U.size hT) h hT) t
  have HB0 := hide hb0
  have HN0 := hide hn0
  have HSZ : Hid (w.heap.size < (w.alloc (.cells #[.string p, .string d, .string t, .int .i64 m, .int .i64 c, .int .i64 v] 69)).heap.size) := by show _ < _; simp
  clear hb0 hn0
  go_enter Tryd.func53, Tryd.ntmps53
  go_wp2_with (first
    | (go_at_call 64; refine HP.out.mono ?_; rintro e w1 ⟨rfl, hb1⟩; rw [hp]; have HB1 : Hid (Below w.heap.size w w1) := HB0.out.trans (hb1.mono (Nat.le_of_lt HSZ.out)); have hC := (hb1.block _ HSZ.out).trans HN0.out; have k1 := cellOf (j := 1) hC rfl; have k2 := cellOf (j := 2) hC rfl; have k3 := cellOf (j := 3) hC rfl; have k4 := cellOf (j := 4) hC rfl; have k5 := cellOf (j := 5) hC rfl; have HC1 := hide hC; clear hb1 hC)
    | (go_at_call 65; refine (HN.out _ HB1.out).mono ?_; rintro e w2 ⟨rfl, hb2⟩; rw [hn]; have HB2 : Hid (Below w.heap.size w w2) := HB1.out.trans (hb2.mono HB1.out.size); have hC := (hb2.block _ (ltOf HC1.out)).trans HC1.out; have q3 := cellOf (j := 3) hC rfl; have q4 := cellOf (j := 4) hC rfl; have q5 := cellOf (j := 5) hC rfl; clear hb2 hC))
  go_ret
  exact ⟨rfl, HB2.out⟩

set_option maxRecDepth 8000 in
set_option maxHeartbeats 2000000 in
theorem nd_4 (U : Utf validB Tabs) (w : World) (hT : Tabs w) (mx : Int) (hm : w.cell? ⟨4, 0, none⟩ = some (.int .i64 mx)) (h4 : 4 < w.heap.size) (x : Orch.Node) (hps : x.path.size ≤ 140737488355328) (hds : x.data.size ≤ 140737488355328) (hp : isPa x.path = true) (hd : (x.data.size : Int) ≤ 40) (hn : isNt x.note = true) (h5 : 0 ≤ x.made) (h6 : ¬ x.made ≤ x.changed) :
    Calls Tryd.prog 53 #[ndv x.path x.data x.note x.made x.changed x.version] w fun e w' => e = .returned (.bool false) ∧ Below w.heap.size w w' := by
  obtain ⟨p, d, t, m, c, v⟩ := x
  have hn0 := heap_alloc_new w (.cells #[.string p, .string d, .string t, .int .i64 m, .int .i64 c, .int .i64 v] 69)
  have hb0 := below1 w (.cells #[.string p, .string d, .string t, .int .i64 m, .int .i64 c, .int .i64 v] 69)
  have HP := hide (isPath_any _ mx ((hb0.cell (p := ⟨4, 0, none⟩) h4).trans hm) p hps)
  have HN : Hid (∀ W, Below w.heap.size w W → Calls Tryd.prog 65 #[.string t] W fun e w' => e = .returned (.bool (isNt t)) ∧ Below W.heap.size W w') := fun W h => isNote_any U W (U.kept (U.size hT) h hT) t
  have HB0 := hide hb0
  have HN0 := hide hn0
  have HSZ : Hid (w.heap.size < (w.alloc (.cells #[.string p, .string d, .string t, .int .i64 m, .int .i64 c, .int .i64 v] 69)).heap.size) := by show _ < _; simp
  clear hb0 hn0
  go_enter Tryd.func53, Tryd.ntmps53
  go_wp2_with (first
    | (go_at_call 64; refine HP.out.mono ?_; rintro e w1 ⟨rfl, hb1⟩; rw [hp]; have HB1 : Hid (Below w.heap.size w w1) := HB0.out.trans (hb1.mono (Nat.le_of_lt HSZ.out)); have hC := (hb1.block _ HSZ.out).trans HN0.out; have k1 := cellOf (j := 1) hC rfl; have k2 := cellOf (j := 2) hC rfl; have k3 := cellOf (j := 3) hC rfl; have k4 := cellOf (j := 4) hC rfl; have k5 := cellOf (j := 5) hC rfl; have HC1 := hide hC; clear hb1 hC)
    | (go_at_call 65; refine (HN.out _ HB1.out).mono ?_; rintro e w2 ⟨rfl, hb2⟩; rw [hn]; have HB2 : Hid (Below w.heap.size w w2) := HB1.out.trans (hb2.mono HB1.out.size); have hC := (hb2.block _ (ltOf HC1.out)).trans HC1.out; have q3 := cellOf (j := 3) hC rfl; have q4 := cellOf (j := 4) hC rfl; have q5 := cellOf (j := 5) hC rfl; clear hb2 hC))
  go_ret
  exact ⟨rfl, HB2.out⟩

set_option maxRecDepth 8000 in
set_option maxHeartbeats 2000000 in
theorem nd_5 (U : Utf validB Tabs) (w : World) (hT : Tabs w) (mx : Int) (hm : w.cell? ⟨4, 0, none⟩ = some (.int .i64 mx)) (h4 : 4 < w.heap.size) (x : Orch.Node) (hps : x.path.size ≤ 140737488355328) (hds : x.data.size ≤ 140737488355328) (hp : isPa x.path = true) (hd : (x.data.size : Int) ≤ 40) (hn : isNt x.note = true) (h5 : 0 ≤ x.made) (h6 : x.made ≤ x.changed) (h7 : ¬ 0 ≤ x.version) :
    Calls Tryd.prog 53 #[ndv x.path x.data x.note x.made x.changed x.version] w fun e w' => e = .returned (.bool false) ∧ Below w.heap.size w w' := by
  obtain ⟨p, d, t, m, c, v⟩ := x
  have hn0 := heap_alloc_new w (.cells #[.string p, .string d, .string t, .int .i64 m, .int .i64 c, .int .i64 v] 69)
  have hb0 := below1 w (.cells #[.string p, .string d, .string t, .int .i64 m, .int .i64 c, .int .i64 v] 69)
  have HP := hide (isPath_any _ mx ((hb0.cell (p := ⟨4, 0, none⟩) h4).trans hm) p hps)
  have HN : Hid (∀ W, Below w.heap.size w W → Calls Tryd.prog 65 #[.string t] W fun e w' => e = .returned (.bool (isNt t)) ∧ Below W.heap.size W w') := fun W h => isNote_any U W (U.kept (U.size hT) h hT) t
  have HB0 := hide hb0
  have HN0 := hide hn0
  have HSZ : Hid (w.heap.size < (w.alloc (.cells #[.string p, .string d, .string t, .int .i64 m, .int .i64 c, .int .i64 v] 69)).heap.size) := by show _ < _; simp
  clear hb0 hn0
  go_enter Tryd.func53, Tryd.ntmps53
  go_wp2_with (first
    | (go_at_call 64; refine HP.out.mono ?_; rintro e w1 ⟨rfl, hb1⟩; rw [hp]; have HB1 : Hid (Below w.heap.size w w1) := HB0.out.trans (hb1.mono (Nat.le_of_lt HSZ.out)); have hC := (hb1.block _ HSZ.out).trans HN0.out; have k1 := cellOf (j := 1) hC rfl; have k2 := cellOf (j := 2) hC rfl; have k3 := cellOf (j := 3) hC rfl; have k4 := cellOf (j := 4) hC rfl; have k5 := cellOf (j := 5) hC rfl; have HC1 := hide hC; clear hb1 hC)
    | (go_at_call 65; refine (HN.out _ HB1.out).mono ?_; rintro e w2 ⟨rfl, hb2⟩; rw [hn]; have HB2 : Hid (Below w.heap.size w w2) := HB1.out.trans (hb2.mono HB1.out.size); have hC := (hb2.block _ (ltOf HC1.out)).trans HC1.out; have q3 := cellOf (j := 3) hC rfl; have q4 := cellOf (j := 4) hC rfl; have q5 := cellOf (j := 5) hC rfl; clear hb2 hC))
  go_ret
  exact ⟨rfl, HB2.out⟩

set_option maxRecDepth 8000 in
set_option maxHeartbeats 2000000 in
theorem nd_6 (U : Utf validB Tabs) (w : World) (hT : Tabs w) (mx : Int) (hm : w.cell? ⟨4, 0, none⟩ = some (.int .i64 mx)) (h4 : 4 < w.heap.size) (x : Orch.Node) (hps : x.path.size ≤ 140737488355328) (hds : x.data.size ≤ 140737488355328) (hp : isPa x.path = true) (hd : (x.data.size : Int) ≤ 40) (hn : isNt x.note = true) (h5 : 0 ≤ x.made) (h6 : x.made ≤ x.changed) (h7 : 0 ≤ x.version) (h8 : ¬ x.version ≤ 2147483647) :
    Calls Tryd.prog 53 #[ndv x.path x.data x.note x.made x.changed x.version] w fun e w' => e = .returned (.bool false) ∧ Below w.heap.size w w' := by
  obtain ⟨p, d, t, m, c, v⟩ := x
  have hn0 := heap_alloc_new w (.cells #[.string p, .string d, .string t, .int .i64 m, .int .i64 c, .int .i64 v] 69)
  have hb0 := below1 w (.cells #[.string p, .string d, .string t, .int .i64 m, .int .i64 c, .int .i64 v] 69)
  have HP := hide (isPath_any _ mx ((hb0.cell (p := ⟨4, 0, none⟩) h4).trans hm) p hps)
  have HN : Hid (∀ W, Below w.heap.size w W → Calls Tryd.prog 65 #[.string t] W fun e w' => e = .returned (.bool (isNt t)) ∧ Below W.heap.size W w') := fun W h => isNote_any U W (U.kept (U.size hT) h hT) t
  have HB0 := hide hb0
  have HN0 := hide hn0
  have HSZ : Hid (w.heap.size < (w.alloc (.cells #[.string p, .string d, .string t, .int .i64 m, .int .i64 c, .int .i64 v] 69)).heap.size) := by show _ < _; simp
  clear hb0 hn0
  go_enter Tryd.func53, Tryd.ntmps53
  go_wp2_with (first
    | (go_at_call 64; refine HP.out.mono ?_; rintro e w1 ⟨rfl, hb1⟩; rw [hp]; have HB1 : Hid (Below w.heap.size w w1) := HB0.out.trans (hb1.mono (Nat.le_of_lt HSZ.out)); have hC := (hb1.block _ HSZ.out).trans HN0.out; have k1 := cellOf (j := 1) hC rfl; have k2 := cellOf (j := 2) hC rfl; have k3 := cellOf (j := 3) hC rfl; have k4 := cellOf (j := 4) hC rfl; have k5 := cellOf (j := 5) hC rfl; have HC1 := hide hC; clear hb1 hC)
    | (go_at_call 65; refine (HN.out _ HB1.out).mono ?_; rintro e w2 ⟨rfl, hb2⟩; rw [hn]; have HB2 : Hid (Below w.heap.size w w2) := HB1.out.trans (hb2.mono HB1.out.size); have hC := (hb2.block _ (ltOf HC1.out)).trans HC1.out; have q3 := cellOf (j := 3) hC rfl; have q4 := cellOf (j := 4) hC rfl; have q5 := cellOf (j := 5) hC rfl; clear hb2 hC))
  go_ret
  exact ⟨ret_bool (decide_eq_false (by omega)), HB2.out⟩

set_option maxRecDepth 8000 in
set_option maxHeartbeats 2000000 in
theorem nd_7 (U : Utf validB Tabs) (w : World) (hT : Tabs w) (mx : Int) (hm : w.cell? ⟨4, 0, none⟩ = some (.int .i64 mx)) (h4 : 4 < w.heap.size) (x : Orch.Node) (hps : x.path.size ≤ 140737488355328) (hds : x.data.size ≤ 140737488355328) (hp : isPa x.path = true) (hd : (x.data.size : Int) ≤ 40) (hn : isNt x.note = true) (h5 : 0 ≤ x.made) (h6 : x.made ≤ x.changed) (h7 : 0 ≤ x.version) (h8 : x.version ≤ 2147483647) :
    Calls Tryd.prog 53 #[ndv x.path x.data x.note x.made x.changed x.version] w fun e w' => e = .returned (.bool true) ∧ Below w.heap.size w w' := by
  obtain ⟨p, d, t, m, c, v⟩ := x
  have hn0 := heap_alloc_new w (.cells #[.string p, .string d, .string t, .int .i64 m, .int .i64 c, .int .i64 v] 69)
  have hb0 := below1 w (.cells #[.string p, .string d, .string t, .int .i64 m, .int .i64 c, .int .i64 v] 69)
  have HP := hide (isPath_any _ mx ((hb0.cell (p := ⟨4, 0, none⟩) h4).trans hm) p hps)
  have HN : Hid (∀ W, Below w.heap.size w W → Calls Tryd.prog 65 #[.string t] W fun e w' => e = .returned (.bool (isNt t)) ∧ Below W.heap.size W w') := fun W h => isNote_any U W (U.kept (U.size hT) h hT) t
  have HB0 := hide hb0
  have HN0 := hide hn0
  have HSZ : Hid (w.heap.size < (w.alloc (.cells #[.string p, .string d, .string t, .int .i64 m, .int .i64 c, .int .i64 v] 69)).heap.size) := by show _ < _; simp
  clear hb0 hn0
  go_enter Tryd.func53, Tryd.ntmps53
  go_wp2_with (first
    | (go_at_call 64; refine HP.out.mono ?_; rintro e w1 ⟨rfl, hb1⟩; rw [hp]; have HB1 : Hid (Below w.heap.size w w1) := HB0.out.trans (hb1.mono (Nat.le_of_lt HSZ.out)); have hC := (hb1.block _ HSZ.out).trans HN0.out; have k1 := cellOf (j := 1) hC rfl; have k2 := cellOf (j := 2) hC rfl; have k3 := cellOf (j := 3) hC rfl; have k4 := cellOf (j := 4) hC rfl; have k5 := cellOf (j := 5) hC rfl; have HC1 := hide hC; clear hb1 hC)
    | (go_at_call 65; refine (HN.out _ HB1.out).mono ?_; rintro e w2 ⟨rfl, hb2⟩; rw [hn]; have HB2 : Hid (Below w.heap.size w w2) := HB1.out.trans (hb2.mono HB1.out.size); have hC := (hb2.block _ (ltOf HC1.out)).trans HC1.out; have q3 := cellOf (j := 3) hC rfl; have q4 := cellOf (j := 4) hC rfl; have q5 := cellOf (j := 5) hC rfl; clear hb2 hC))
  go_ret
  exact ⟨rfl, HB2.out⟩

theorem isNode_any (U : Utf validB Tabs) (w : World) (hT : Tabs w) (mx : Int) (hm : w.cell? ⟨4, 0, none⟩ = some (.int .i64 mx)) (h4 : 4 < w.heap.size) (x : Orch.Node) (hps : x.path.size ≤ 140737488355328) (hds : x.data.size ≤ 140737488355328) :
    Calls Tryd.prog 53 #[ndv x.path x.data x.note x.made x.changed x.version] w fun e w' => e = .returned (.bool (isNd x)) ∧ Below w.heap.size w w' := by
  unfold isNd
  cases hp : isPa x.path with
  | false => exact nd_0 U w hT mx hm h4 x hps hds hp
  | true =>
    by_cases hd : (x.data.size : Int) ≤ 40
    · rw [decide_eq_true (show x.data.size ≤ 40 by omega)]
      cases hn : isNt x.note with
      | false => exact nd_2 U w hT mx hm h4 x hps hds hp hd hn
      | true =>
        by_cases h5 : 0 ≤ x.made
        · rw [decide_eq_true h5]
          by_cases h6 : x.made ≤ x.changed
          · rw [decide_eq_true h6]
            by_cases h7 : 0 ≤ x.version
            · rw [decide_eq_true h7]
              by_cases h8 : x.version ≤ 2147483647
              · rw [decide_eq_true h8]
                exact nd_7 U w hT mx hm h4 x hps hds hp hd hn h5 h6 h7 h8
              · rw [decide_eq_false h8]
                exact nd_6 U w hT mx hm h4 x hps hds hp hd hn h5 h6 h7 h8
            · rw [decide_eq_false h7]
              exact nd_5 U w hT mx hm h4 x hps hds hp hd hn h5 h6 h7
          · rw [decide_eq_false h6]
            exact nd_4 U w hT mx hm h4 x hps hds hp hd hn h5 h6
        · rw [decide_eq_false h5]
          exact nd_3 U w hT mx hm h4 x hps hds hp hd hn h5
    · rw [decide_eq_false (show ¬ x.data.size ≤ 40 by omega)]
      exact nd_1 U w hT mx hm h4 x hps hds hp hd
end
end Go.Proofs.YtlghcldiboecoaaDoor

/- Whether paths rise. -/
set_option linter.unusedVariables false
namespace Go.Proofs.YtlghcldiboecoaaDoor
open Go.RowKit

/-- The answer is whether P holds. -/
def Tells (e : Ending) (P : Prop) : Prop := ∃ r : Bool, e = .returned (.bool r) ∧ (r = true ↔ P)
theorem Tells.yes {P : Prop} (h : P) : Tells (.returned (.bool true)) P := ⟨true, rfl, by simp [h]⟩
theorem Tells.no {P : Prop} (h : ¬ P) : Tells (.returned (.bool false)) P := ⟨false, rfl, by simp [h]⟩

def Rises (ns : List Orch.Node) : Prop := ∀ k (h : k + 1 < ns.length), Op.bytesLess (ns[k]'(by omega)).path.toList ns[k + 1].path.toList = true

set_option maxRecDepth 8000 in
set_option maxHeartbeats 2000000 in
theorem rises_any (w : World) (nsv : Value) (B : Nat) (hB : B ≤ w.heap.size) (ns : List Orch.Node) (hns : NsAt w B nsv ns) (hlen : ns.length ≤ 1000000) :
    Calls Tryd.prog 54 #[nsv] w fun e w' => Tells e (Rises ns) ∧ Below w.heap.size w w' := by
  obtain ⟨b, off, cap, rfl, hcap, hblt, hcells⟩ := hns
  have HC : Hid (∀ W, Below w.heap.size w W → ∀ i (h : i < ns.length), W.cell? ⟨b, off + i * 6, none⟩ = some (.string ns[i].path)) := fun W hW i h => (hW.cell (p := ⟨b, off + i * 6, none⟩) (Nat.lt_of_lt_of_le hblt hB)).trans (hcells i h 0 _ rfl)
  clear hcells
  go_enter Tryd.func54, Tryd.ntmps54
  go_wp2
  go_loopw [3] (fun i wr => ∃ k : Nat, k ≤ ns.length ∧ i = .int .i64 ((k : Int) + 1) ∧ Hid (Below w.heap.size w wr) ∧ Hid (∀ j (h : j + 1 < ns.length), j < k → Op.bytesLess (ns[j]'(by omega)).path.toList ns[j + 1].path.toList = true)) (fun i _ => ns.length + 2 - (intOf i).toNat)
  case atStart => exact ⟨0, Nat.zero_le _, rfl, Below.refl _ _, fun j h h0 => by omega⟩
  case round =>
    obtain ⟨k, hk, rfl, HB, HR⟩ := hrel
    by_cases hlt : k + 1 < ns.length
    · have hkz : (k : Int) + 1 < (ns.length : Int) := by omega
      have e0 := HC.out wr HB.out k (by omega)
      have e1 := HC.out wr HB.out (k + 1) hlt
      have HPQ : Hid (∀ r : Bool, Op.bytesLess (ns[k]'(by omega)).path.toList ns[k + 1].path.toList = r → r = Op.bytesLess (ns[k]'(by omega)).path.toList ns[k + 1].path.toList) := fun r h => h.symm
      generalize hP : (ns[k]'(by omega)).path = P at *
      generalize hQ : ns[k + 1].path = Q at *
      have HP := hide hP
      have HQ := hide hQ
      clear hP hQ HPQ
      have hsub : (k : Int) + 1 - 1 = (k : Int) := by omega
      cases hc : Op.bytesLess P.toList Q.toList with
      | true =>
        go_wp2_with fail
        go_region
        all_goals go_wp2_with fail
        all_goals go_roundw
        all_goals first
          | exact ⟨k + 1, by omega, by go_num, HB.out.drew, fun j h hj => by
              rcases Nat.lt_or_ge j k with h1 | h1
              · exact HR.out j h h1
              · obtain rfl : j = k := by omega
                rw [HP.out, HQ.out]
                exact hc⟩
          | (simp [intOf]; done)
          | (simp [intOf]; omega)
      | false =>
        have HF : Hid (¬ Rises ns) := fun h => by
          have := h k hlt
          rw [HP.out, HQ.out, hc] at this
          cases this
        go_wp2_with fail
        go_region
        all_goals go_wp2
        all_goals go_ret
        all_goals exact ⟨Tells.no HF.out, HB.out.drew⟩
    · have hkz : ¬ (k : Int) + 1 < (ns.length : Int) := by omega
      go_wp2
      go_ret
      exact ⟨Tells.yes (fun j h => HR.out j h (by omega)), HB.out⟩
end Go.Proofs.YtlghcldiboecoaaDoor

/- Whether the parent of each node is there. -/
set_option linter.unusedVariables false
namespace Go.Proofs.YtlghcldiboecoaaDoor
open Go.RowKit Go.ChangeMaps
open Go.Maps (Keyed IsMap Tidy string_keyed)

def HasParents (ns : List Orch.Node) : Prop := ∀ k (h : k + 1 < ns.length), ∃ j, ∃ h' : j < ns.length, ns[j].path = parentB ns[k + 1].path

theorem key9 : Keyed Tryd.prog 9 := string_keyed Tryd.underlying9

theorem bytes_inj {a b : ByteArray} (h : a.data.toList = b.data.toList) : a = b := by
  apply ByteArray.ext
  exact Array.toList_inj.1 h

set_option maxRecDepth 8000 in
set_option maxHeartbeats 4000000 in
theorem parents_any (w : World) (nsv : Value) (B : Nat) (hB : B ≤ w.heap.size) (ns : List Orch.Node) (hns : NsAt w B nsv ns) (h1 : 1 ≤ ns.length) (hlen : ns.length ≤ 1000000) (hp : ∀ x, x ∈ ns → slash1 x.path = true ∧ x.path.size ≤ 1000) :
    Calls Tryd.prog 55 #[nsv] w fun e w' => Tells e (HasParents ns) ∧ Below w.heap.size w w' := by
  obtain ⟨b, off, cap, rfl, hcap, hblt, hcells⟩ := hns
  have HC : Hid (∀ W, Below w.heap.size w W → ∀ i (h : i < ns.length) (j : Nat) u, (ncell ns[i])[j]? = some u → W.cell? ⟨b, off + i * 6 + j, none⟩ = some u) := fun W hW i h j u hu => (hW.cell (p := ⟨b, off + i * 6 + j, none⟩) (Nat.lt_of_lt_of_le hblt hB)).trans (hcells i h j u hu)
  have HPS := hide hp
  clear hcells hp
  have hM0 := World.ownsMap_made (H := Unit) w Tryd.prog 9 (plainElem Tryd.prog 3)
  have HM0 := hide hM0
  have HB0 : Hid (Below w.heap.size w (w.alloc (.map #[] 0))) := below1 _ _
  clear hM0
  have hmm := @run_makeMap Tryd.prog
  go_enter Tryd.func55, Tryd.ntmps55
  go_wp2_with fail
  clear hmm
  generalize w.alloc (.map #[] 0) = w0 at *
  go_loopw [13] (fun i wr => ∃ (k : Nat) (D : DataW Unit), k ≤ ns.length ∧ i = .int .i64 k ∧ Hid (wr.ownsMap Tryd.prog 9 (plainElem Tryd.prog 3) w.heap.size k D) ∧ Hid (Below w.heap.size w wr) ∧ Hid (∀ s : List UInt8, Maps.has D (.string s) = true ↔ ∃ j, ∃ h : j < ns.length, j < k ∧ ns[j].path.data.toList = s))
    (fun i _ => ns.length - (intOf i).toNat)
  case atStart => exact ⟨0, .map [], Nat.zero_le _, rfl, HM0, HB0, fun s => by constructor; (intro h; simp [Maps.has] at h); (rintro ⟨j, h, h0, _⟩; omega)⟩
  case round =>
    obtain ⟨k, D, hk, rfl, HM, HB, HH⟩ := hrel
    by_cases hlt : k < ns.length
    · have hkz : (k : Int) < (ns.length : Int) := by omega
      have c0 := HC.out wr HB.out k hlt 0 _ rfl
      have c1 := HC.out wr HB.out k hlt 1 _ rfl
      have c2 := HC.out wr HB.out k hlt 2 _ rfl
      have c3 := HC.out wr HB.out k hlt 3 _ rfl
      have c4 := HC.out wr HB.out k hlt 4 _ rfl
      have c5 := HC.out wr HB.out k hlt 5 _ rfl
      rw [Nat.add_zero] at c0
      have hsz := (HPS.out ns[k] (List.getElem_mem hlt)).2
      generalize hxx : ns[k] = x at *
      obtain ⟨xp, xd, xt, xm, xch, xv⟩ := x
      simp only at c0 c1 c2 c3 c4 c5 hsz
      have HXX := hide hxx
      clear hxx
      have hkey : keyOf Tryd.prog 9 (.string xp) = some (.string xp.data.toList) := WideMaps.keyOf_string_mk Tryd.underlying9 (by unfold maxLen; omega)
      have hwf : (Lit.int .i64 (k : Int)).wf = true := WalkArith.wf_i64 (by omega)
      go_wp2_with (at_mapUpdate; refine wpList_mapUpdate_own _ rfl _ _ _ 115 rfl 9 3 key9 Tryd.underlying115 _ w.heap.size k D rfl (HM.out.alloc _) (by unfold maxLen; omega) _ _ _ rfl rfl hkey _ [] (plainElem_int Tryd.underlying3 hwf) ?_; intro w1 hown1 hgrow1)
      have hB1 : Below w.heap.size w w1 := (HB.out.alloc HB.out.size _).grown hgrow1 (by have := HB.out.size; simp; omega) (fun j hj => by injection hj with hj; omega)
      have HM1 := hide hown1
      have HB1 := hide hB1
      have HH1 : Hid (∀ s : List UInt8, Maps.has (D.put (.string xp.data.toList) (.lit (.int .i64 (k : Int)))) (.string s) = true ↔ ∃ j, ∃ h : j < ns.length, j < k + 1 ∧ ns[j].path.data.toList = s) := fun s => by
        by_cases hs : s = xp.data.toList
        · subst hs
          rw [Maps.has_put_same HM.out.isMap (by trivial)]
          simp only [true_iff]
          exact ⟨k, hlt, by omega, by rw [HXX.out]⟩
        · rw [Maps.has_put_other (fun e => hs (by injection e)), HH.out s]
          constructor
          · rintro ⟨j, h, h2, h3⟩
            exact ⟨j, h, by omega, h3⟩
          · rintro ⟨j, h, h2, h3⟩
            refine ⟨j, h, ?_, h3⟩
            rcases Nat.lt_or_ge j k with h4 | h4
            · exact h4
            · obtain rfl : j = k := by omega
              rw [HXX.out] at h3
              exact absurd h3.symm hs
      clear hown1 hgrow1 hB1
      exact ⟨⟨k + 1, _, by omega, by go_num, HM1, HB1, HH1⟩, by first | (simp [intOf]; done) | (simp [intOf]; omega)⟩
    · have hkz : ¬ (k : Int) < (ns.length : Int) := by omega
      obtain rfl : k = ns.length := by omega
      have HH2 : Hid (∀ s : List UInt8, Maps.has D (.string s) = true ↔ ∃ j, ∃ h : j < ns.length, ns[j].path.data.toList = s) := fun s => (HH.out s).trans ⟨fun ⟨j, h, _, h3⟩ => ⟨j, h, h3⟩, fun ⟨j, h, h3⟩ => ⟨j, h, h, h3⟩⟩
      clear HH
      have h1z : (1 : Int) ≤ (ns.length : Int) := by omega
      obtain ⟨n', hn'⟩ : ∃ n', ns.length - 1 = n' := ⟨_, rfl⟩
      have hn1 : ns.length = n' + 1 := by omega
      have hzero : ∀ W, (zeroValue 3).run Tryd.prog W = .ok (.int .i64 0) W := Tryd.zeroValue3
      by_cases hc1 : cap = 1
      · have hn0 : n' = 0 := by omega
        subst hn0
        have HY : Hid (HasParents ns) := fun k h => by omega
        go_wp2_with fail
        go_loopw [26] (fun i wr => i = .int .i64 0 ∧ Hid (Below w.heap.size w wr)) (fun _ _ => 0)
        case atStart => exact ⟨rfl, HB⟩
        case round =>
          obtain ⟨rfl, HBq⟩ := hrel
          go_wp2
          go_ret
          exact ⟨Tells.yes HY.out, HBq.out⟩
      · go_wp2_with fail
        go_loopw [26] (fun i wr => ∃ k : Nat, k ≤ n' ∧ i = .int .i64 k ∧ Hid (Below w.heap.size w wr) ∧ Hid (wr.ownsMap Tryd.prog 9 (plainElem Tryd.prog 3) w.heap.size (n' + 1) D) ∧ Hid (∀ j (h : j + 1 < ns.length), j < k → ∃ i, ∃ h' : i < ns.length, ns[i].path = parentB ns[j + 1].path))
          (fun i _ => n' - (intOf i).toNat)
        case atStart => exact ⟨0, Nat.zero_le _, rfl, HB, by rw [← hn1]; exact HM, fun j h h0 => by omega⟩
        case round =>
          obtain ⟨k, hk, rfl, HBq, HMq, HPq⟩ := hrel
          by_cases hlt2 : k < n'
          · have hkz2 : (k : Int) < (n' : Int) := by omega
            have hk1 : k + 1 < ns.length := by omega
            have c0 := HC.out wr HBq.out (k + 1) hk1 0 _ rfl
            have c1 := HC.out wr HBq.out (k + 1) hk1 1 _ rfl
            have c2 := HC.out wr HBq.out (k + 1) hk1 2 _ rfl
            have c3 := HC.out wr HBq.out (k + 1) hk1 3 _ rfl
            have c4 := HC.out wr HBq.out (k + 1) hk1 4 _ rfl
            have c5 := HC.out wr HBq.out (k + 1) hk1 5 _ rfl
            rw [show off + (k + 1) * 6 = off + 6 + k * 6 by omega] at c0 c1 c2 c3 c4 c5
            rw [Nat.add_zero] at c0
            obtain ⟨hsl, hsz⟩ := HPS.out ns[k + 1] (List.getElem_mem hk1)
            have HXP : Hid (∀ q : ByteArray, q = parentB ns[k + 1].path → Maps.has D (.string q.data.toList) = true → ∃ i, ∃ h' : i < ns.length, ns[i].path = parentB ns[k + 1].path) := fun q hq hh => by
              obtain ⟨i, h', he⟩ := (HH2.out _).1 hh
              exact ⟨i, h', by rw [← hq]; exact bytes_inj he⟩
            have HXN : Hid (∀ q : ByteArray, q = parentB ns[k + 1].path → Maps.has D (.string q.data.toList) = false → ¬ HasParents ns) := fun q hq hh hp => by
              obtain ⟨i, h', he⟩ := hp k hk1
              have := (HH2.out q.data.toList).2 ⟨i, h', by rw [hq, he]⟩
              rw [hh] at this
              cases this
            generalize hxx : ns[k + 1] = x at *
            obtain ⟨xp, xd, xt, xm, xch, xv⟩ := x
            simp only at c0 c1 c2 c3 c4 c5 hsl hsz HXP HXN
            have HPA : Hid (∀ W, Calls Tryd.prog 66 #[.string xp] W fun e w' => e = .returned (.string (parentB xp)) ∧ w' = W) := fun W => parent_any W xp (by omega) hsl
            have hps : (parentB xp).size ≤ maxLen := by
              have : (parentB xp).size ≤ 1000 + 1 := by
                unfold parentB
                split
                · exact (by decide : (⟨#[47]⟩ : ByteArray).size ≤ 1001)
                · rw [ByteArray.size_extract]; omega
              unfold maxLen
              omega
            have hkey : keyOf Tryd.prog 9 (.string (parentB xp)) = some (.string (parentB xp).data.toList) := WideMaps.keyOf_string_mk Tryd.underlying9 hps
            have hxp := HXP.out _ rfl
            have hxn := HXN.out _ rfl
            have HXP2 := hide hxp
            have HXN2 := hide hxn
            have HXX := hide hxx
            clear HXP HXN hxp hxn hps hxx
            generalize hQ : parentB xp = Q at *
            have HQ := hide hQ
            clear hQ
            have HBa : Hid (Below w.heap.size w (wr.alloc (.cells #[.string xp, .string xd, .string xt, .int .i64 xm, .int .i64 xch, .int .i64 xv] 69))) := HBq.out.alloc HBq.out.size _
            cases hh : Maps.has D (.string Q.data.toList) with
            | true =>
              go_wp2_with (first
                | (go_at_call 66; refine (HPA.out _).mono ?_; rintro e w3 ⟨rfl, rfl⟩)
                | (at_lookup; refine wpList_lookup_own_ok_int _ rfl _ _ 115 rfl 9 3 .i64 key9 Tryd.underlying115 Tryd.underlying3 (hzero _) w.heap.size (n' + 1) D rfl (HMq.out.alloc _) _ _ rfl hkey ?_; intro c hat hwc; rw [hh]))
              refine ⟨⟨k + 1, by omega, by go_num, HBa, HMq.out.alloc _, fun j h hj => ?_⟩, by first | (simp [intOf]; done) | (simp [intOf]; omega)⟩
              rcases Nat.lt_or_ge j k with h4 | h4
              · exact HPq.out j h h4
              · obtain rfl : j = k := by omega
                obtain ⟨i, h', he⟩ := HXP2.out hh
                exact ⟨i, h', by rw [he, HXX.out, ← HQ.out]⟩
            | false =>
              go_wp2_with (first
                | (go_at_call 66; refine (HPA.out _).mono ?_; rintro e w3 ⟨rfl, rfl⟩)
                | (at_lookup; refine wpList_lookup_own_ok_int _ rfl _ _ 115 rfl 9 3 .i64 key9 Tryd.underlying115 Tryd.underlying3 (hzero _) w.heap.size (n' + 1) D rfl (HMq.out.alloc _) _ _ rfl hkey ?_; intro c hat hwc; rw [hh]))
              go_ret
              exact ⟨Tells.no (HXN2.out hh), HBa.out⟩
          · have hkz2 : ¬ (k : Int) < (n' : Int) := by omega
            go_wp2
            go_ret
            exact ⟨Tells.yes (fun j h => HPq.out j h (by omega)), HBq.out⟩
end Go.Proofs.YtlghcldiboecoaaDoor

/- Trees. -/
set_option linter.unusedVariables false
namespace Go.Proofs.YtlghcldiboecoaaDoor
open Go.RowKit

/-- A tree with a number. -/
def TreeP (n : Int) (ns : List Orch.Node) : Prop := ns.length ≤ 32 ∧ (∃ h : 0 < ns.length, ns[0].path = ⟨#[47]⟩) ∧ (∀ x, x ∈ ns → isNd x = true ∧ x.changed ≤ n) ∧ Rises ns ∧ HasParents ns

theorem pa_slash {s : ByteArray} (h : isPa s = true) : slash1 s = true ∧ s.size ≤ 24 := by
  unfold isPa at h
  rw [Bool.and_eq_true, decide_eq_true_iff, Bool.or_eq_true, Bool.and_eq_true] at h
  obtain ⟨h1, h2 | h2⟩ := h
  · rw [toList_lit, decide_eq_true_iff] at h2
    rw [h2]
    exact ⟨by kernel_rfl, by decide⟩
  · exact ⟨h2.1, h1⟩

theorem nd_slash {x : Orch.Node} (h : isNd x = true) : slash1 x.path = true ∧ x.path.size ≤ 1000 := by
  unfold isNd at h
  rw [Bool.and_eq_true] at h
  have := pa_slash h.1
  exact ⟨this.1, by omega⟩

section
variable {Tabs : World → Prop}

set_option maxRecDepth 8000 in
set_option maxHeartbeats 4000000 in
theorem isTree_any (U : Utf validB Tabs) (w : World) (hT : Tabs w) (mx : Int) (hm : w.cell? ⟨4, 0, none⟩ = some (.int .i64 mx)) (h4 : 4 < w.heap.size) (n : Int) (nsv : Value) (B : Nat) (hB : B ≤ w.heap.size) (ns : List Orch.Node) (hns : NsAt w B nsv ns) (h1 : 1 ≤ ns.length) (hlen : ns.length ≤ 1000000)
    (hsz : ∀ x, x ∈ ns → x.path.size ≤ 140737488355328 ∧ x.data.size ≤ 140737488355328) :
    Calls Tryd.prog 37 #[.int .i64 n, nsv] w fun e w' => Tells e (TreeP n ns) ∧ Below w.heap.size w w' := by
  have HNS : Hid (∀ W, Below w.heap.size w W → NsAt W B nsv ns) := fun W h => hns.below (h.mono hB)
  obtain ⟨b, off, cap, rfl, hcap, hblt, hcells⟩ := hns
  have HC : Hid (∀ W, Below w.heap.size w W → ∀ i (h : i < ns.length) (j : Nat) u, (ncell ns[i])[j]? = some u → W.cell? ⟨b, off + i * 6 + j, none⟩ = some u) := fun W hW i h j u hu => (hW.cell (p := ⟨b, off + i * 6 + j, none⟩) (Nat.lt_of_lt_of_le hblt hB)).trans (hcells i h j u hu)
  have HND : Hid (∀ W, Below w.heap.size w W → ∀ x, x ∈ ns → Calls Tryd.prog 53 #[ndv x.path x.data x.note x.made x.changed x.version] W fun e w' => e = .returned (.bool (isNd x)) ∧ Below W.heap.size W w') := fun W hW x hx =>
    isNode_any U W (U.kept (U.size hT) hW hT) mx ((hW.cell (p := ⟨4, 0, none⟩) h4).trans hm) (Nat.lt_of_lt_of_le h4 hW.size) x (hsz x hx).1 (hsz x hx).2
  have HRI : Hid (∀ W, Below w.heap.size w W → Calls Tryd.prog 54 #[.slice (some ⟨b, off, none⟩) ns.length cap] W fun e w' => Tells e (Rises ns) ∧ Below W.heap.size W w') := fun W hW => rises_any W _ B (Nat.le_trans hB hW.size) ns (HNS.out W hW) hlen
  have HPA : Hid (∀ W, Below w.heap.size w W → (∀ x, x ∈ ns → isNd x = true) → Calls Tryd.prog 55 #[.slice (some ⟨b, off, none⟩) ns.length cap] W fun e w' => Tells e (HasParents ns) ∧ Below W.heap.size W w') := fun W hW hp => parents_any W _ B (Nat.le_trans hB hW.size) ns (HNS.out W hW) h1 hlen (fun x hx => nd_slash (hp x hx))
  have c00 := hcells 0 (by omega) 0 _ rfl
  simp only [Nat.zero_mul, Nat.add_zero] at c00
  clear hT hm hsz hcells HNS
  have hz0 : ((ns.length : Int) == 0) = false := by rw [beq_eq_false_iff_ne]; omega
  by_cases h32 : (32 : Int) < (ns.length : Int)
  · have HF : Hid (¬ TreeP n ns) := fun h => by have := h.1; omega
    go_enter Tryd.func37, Tryd.ntmps37
    go_wp2
    go_ret
    exact ⟨Tells.no HF.out, Below.refl _ _⟩
  · have h0' : 0 < ns.length := by omega
    have HR0 : Hid (ns[0].path = ns[0].path) := rfl
    generalize hroot : ns[0].path = R0 at *
    have HROOT := hide hroot
    clear HR0 hroot
    cases hr : (R0.toList == [47]) with
    | false =>
      have HF : Hid (¬ TreeP n ns) := fun h => by
        obtain ⟨h', he⟩ := h.2.1
        rw [HROOT.out] at he
        rw [toList_lit, decide_eq_false_iff_not] at hr
        exact hr he
      go_enter Tryd.func37, Tryd.ntmps37
      go_wp2
      go_ret
      exact ⟨Tells.no HF.out, Below.refl _ _⟩
    | true =>
      have HRT : Hid (∃ h : 0 < ns.length, ns[0].path = ⟨#[47]⟩) := ⟨h0', by rw [HROOT.out]; rw [toList_lit, decide_eq_true_iff] at hr; exact hr⟩
      go_enter Tryd.func37, Tryd.ntmps37
      go_wp2_with fail
      clear c00
      go_loopw [24] (fun i wr => ∃ k : Nat, k ≤ ns.length ∧ i = .int .i64 k ∧ Hid (Below w.heap.size w wr) ∧ Hid (∀ j (h : j < ns.length), j < k → isNd ns[j] = true ∧ ns[j].changed ≤ n)) (fun i _ => ns.length - (intOf i).toNat)
      case atStart => exact ⟨0, Nat.zero_le _, rfl, Below.refl _ _, fun j h h0 => by omega⟩
      case round =>
        obtain ⟨k, hk, rfl, HB, HA⟩ := hrel
        by_cases hlt : k < ns.length
        · have hkz : (k : Int) < (ns.length : Int) := by omega
          have c0 := HC.out wr HB.out k hlt 0 _ rfl
          have c1 := HC.out wr HB.out k hlt 1 _ rfl
          have c2 := HC.out wr HB.out k hlt 2 _ rfl
          have c3 := HC.out wr HB.out k hlt 3 _ rfl
          have c4 := HC.out wr HB.out k hlt 4 _ rfl
          have c5 := HC.out wr HB.out k hlt 5 _ rfl
          rw [Nat.add_zero] at c0
          have HMEM := hide (List.getElem_mem hlt)
          have HNDk : Hid (∀ W, Below w.heap.size w W → Calls Tryd.prog 53 #[ndv ns[k].path ns[k].data ns[k].note ns[k].made ns[k].changed ns[k].version] W fun e w' => e = .returned (.bool (isNd ns[k])) ∧ Below W.heap.size W w') := fun W hW => HND.out W hW _ (List.getElem_mem hlt)
          generalize hxx : ns[k] = x at *
          obtain ⟨xp, xd, xt, xm, xch, xv⟩ := x
          simp only at c0 c1 c2 c3 c4 c5
          have HXX := hide hxx
          clear hxx HMEM
          have HNDk' : Hid (∀ W, Below w.heap.size w W → Calls Tryd.prog 53 #[ndv xp xd xt xm xch xv] W fun e w' => e = .returned (.bool (isNd ⟨xp, xd, xt, xm, xch, xv⟩)) ∧ Below W.heap.size W w') := HNDk
          clear HNDk
          have HBa : Hid (Below w.heap.size w (wr.alloc (.cells #[.string xp, .string xd, .string xt, .int .i64 xm, .int .i64 xch, .int .i64 xv] 69))) := HB.out.alloc HB.out.size _
          have HNa : Hid ((wr.alloc (.cells #[.string xp, .string xd, .string xt, .int .i64 xm, .int .i64 xch, .int .i64 xv] 69)).heap[wr.heap.size]? = some (.cells #[.string xp, .string xd, .string xt, .int .i64 xm, .int .i64 xch, .int .i64 xv] 69)) := heap_alloc_new _ _
          cases hnd : isNd ⟨xp, xd, xt, xm, xch, xv⟩ with
          | false =>
            have HF : Hid (¬ TreeP n ns) := fun h => by
              have := (h.2.2.1 _ (List.getElem_mem hlt)).1
              rw [HXX.out, hnd] at this
              cases this
            rw [hnd] at HNDk'
            go_wp2_with (go_at_call 53; refine (HNDk'.out _ HBa.out).mono ?_; rintro e w2 ⟨rfl, hb2⟩; have HB2 : Hid (Below w.heap.size w w2) := HBa.out.trans (hb2.mono HBa.out.size); have hC := (hb2.block _ (ltOf HNa.out)).trans HNa.out; have q4 := cellOf (j := 4) hC rfl; clear hb2 hC)
            go_ret
            exact ⟨Tells.no HF.out, HB2.out⟩
          | true =>
            rw [hnd] at HNDk'
            by_cases hch : n < xch
            · have HF : Hid (¬ TreeP n ns) := fun h => by
                have := (h.2.2.1 _ (List.getElem_mem hlt)).2
                rw [HXX.out] at this
                simp only at this
                omega
              go_wp2_with (go_at_call 53; refine (HNDk'.out _ HBa.out).mono ?_; rintro e w2 ⟨rfl, hb2⟩; have HB2 : Hid (Below w.heap.size w w2) := HBa.out.trans (hb2.mono HBa.out.size); have hC := (hb2.block _ (ltOf HNa.out)).trans HNa.out; have q4 := cellOf (j := 4) hC rfl; clear hb2 hC)
              go_ret
              exact ⟨Tells.no HF.out, HB2.out⟩
            · have HA1 : Hid (∀ j (h : j < ns.length), j < k + 1 → isNd ns[j] = true ∧ ns[j].changed ≤ n) := fun j h hj => by
                rcases Nat.lt_or_ge j k with h5 | h5
                · exact HA.out j h h5
                · obtain rfl : j = k := by omega
                  rw [HXX.out]
                  exact ⟨hnd, by simp only; omega⟩
              go_wp2_with (go_at_call 53; refine (HNDk'.out _ HBa.out).mono ?_; rintro e w2 ⟨rfl, hb2⟩; have HB2 : Hid (Below w.heap.size w w2) := HBa.out.trans (hb2.mono HBa.out.size); have hC := (hb2.block _ (ltOf HNa.out)).trans HNa.out; have q4 := cellOf (j := 4) hC rfl; clear hb2 hC)
              go_roundw
              case rel => exact ⟨k + 1, by omega, by go_num, HB2, HA1⟩
              case measure => first | (simp [intOf]; done) | (simp [intOf]; omega)
        · have hkz : ¬ (k : Int) < (ns.length : Int) := by omega
          have HALL : Hid (∀ x, x ∈ ns → isNd x = true ∧ x.changed ≤ n) := fun x hx => by
            obtain ⟨j, h, rfl⟩ := List.getElem_of_mem hx
            exact HA.out j h (by omega)
          go_wp2_with fail
          refine (HRI.out _ HB.out).mono ?_
          rintro e w2 ⟨htell, hb2⟩
          obtain ⟨r, he, hr2⟩ := htell
          have HB2 : Hid (Below w.heap.size w w2) := HB.out.trans (hb2.mono HB.out.size)
          have HR2 := hide hr2
          clear hb2 hr2
          cases r with
          | false =>
            subst he
            have HF : Hid (¬ TreeP n ns) := fun h => by
              have := HR2.out.2 h.2.2.2.1
              cases this
            clear HR2
            go_wp2
            go_ret
            exact ⟨Tells.no HF.out, HB2.out⟩
          | true =>
            subst he
            have HRS := hide (HR2.out.1 rfl)
            clear HR2
            go_wp2_with fail
            refine (HPA.out _ HB2.out (fun x hx => (HALL.out x hx).1)).mono ?_
            rintro e w3 ⟨htell3, hb3⟩
            obtain ⟨r3, he3, hr3⟩ := htell3
            subst he3
            have HB3 : Hid (Below w.heap.size w w3) := HB2.out.trans (hb3.mono HB2.out.size)
            have HFIN : Hid (r3 = true ↔ TreeP n ns) := hr3.trans ⟨fun h => ⟨by omega, HRT.out, HALL.out, HRS.out, h⟩, fun h => h.2.2.2.2⟩
            clear hb3 hr3
            go_wp2
            go_ret
            exact ⟨⟨r3, rfl, HFIN.out⟩, HB3.out⟩
end
end Go.Proofs.YtlghcldiboecoaaDoor
