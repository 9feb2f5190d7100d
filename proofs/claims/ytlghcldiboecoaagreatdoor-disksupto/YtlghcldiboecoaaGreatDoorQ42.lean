/- The document's Frame. -/
import Derived.Test.YtlghcldiboecoaaGreatDoorQ41
import Derived.Test.YtlghcldiboecoaaGreatDoorQ27
import Derived.Test.YtlghcldiboecoaaGreatDoorQ28
import Derived.Test.YtlghcldiboecoaaGreatDoorQ36
import Derived.KernelRfl
set_option linter.unusedVariables false
namespace Go.Proofs.YtlghcldiboecoaaGreatDoor
open Go.RowKit

set_option maxHeartbeats 4000000 in
theorem refFrame_long (w : World) (g c : Nat) (bs : List UInt8) (hl : 1000 < bs.length) (hm : bs.length ≤ 4000000) :
    Calls Tryz.prog 94 #[.slice (some ⟨g, 0, none⟩) bs.length c] w fun e w' => e = .returned (.tuple #[.slice none 0 0, .int .i64 4]) ∧ w' = w := by
  go_enter Tryz.func94, Tryz.ntmps94
  have hz : (1000 : Int) < (bs.length : Int) := by omega
  go_wp2
  exact bodyPost_ret (v := .tuple #[.slice none 0 0, .int .i64 4]) (by simp [results, Tryz.results94, go_sem]) rfl ⟨rfl, rfl⟩

set_option maxRecDepth 10000 in
set_option maxHeartbeats 4000000 in
theorem refFrame_any (w : World) (g c : Nat) (bs : List UInt8) (hb : Bytes w g 0 bs) (hg : g < w.heap.size) (hl : bs.length ≤ 1000) :
    Calls Tryz.prog 94 #[.slice (some ⟨g, 0, none⟩) bs.length c] w fun e w' => ∃ v', e = .returned (.tuple #[v', .int .i64 0]) ∧ w'.ownsRow w.heap.size 5 1 v' (Orch.be bs.length 4 ++ bs).length (bcells (Orch.be bs.length 4 ++ bs)) ∧ Below w.heap.size w w' := by
  have hby := bytesOf_any w bs.length (by omega) (by omega) 4 (by omega) (by omega)
  have HBY : Hid (Calls Tryz.prog 78 #[.int .i64 bs.length, .int .i64 4] w fun e w' => (∃ ov, e = .returned ov ∧ w'.ownsRow w.heap.size 5 1 ov 4 (bcells (Orch.be bs.length 4))) ∧ Below w.heap.size w w') := hby
  have HB := hide hb
  clear hby hb
  go_enter Tryz.func94, Tryz.ntmps94
  have hz : ¬ (1000 : Int) < (bs.length : Int) := by omega
  obtain ⟨i0, hi0, hz0, hz1, hz2⟩ := info_parts Tryz.info5
  go_wp2_with fail
  refine HBY.out.mono ?_
  rintro e w1 ⟨⟨ov, rfl, hown⟩, hbel⟩
  obtain ⟨qa, qc, hqv⟩ : ∃ a c, ov = .slice a 4 c := by
    rcases hown.2 with ⟨e, h⟩ | ⟨g, cap, cur, e, _⟩
    · omega
    · exact ⟨_, _, e⟩
  subst hqv
  have HO := hide hown
  have HW := hide hbel
  have hby1 := bytes_below HB.out hbel
  have HB1 := hide hby1
  have hs1 := hbel.size
  clear hown hbel hby1 HBY
  go_wp2_with (at_builtin; refine wpList_append_own _ rfl _ _ 57 rfl w.heap.size 5 i0 (.int .u8 0) 1 1 Tryz.underlying57 hi0 hz0 hz1 hz2 rfl (by decide) _ _ _ rfl HO.out ⟨g, 0, none⟩ bs.length c (bcells bs) rfl ?hl ?hn ?h1 ?c3 ?c4 ?c5 ?_)
  case hl => simp [bcells]
  case hn =>
    intro j u hj
    have hj' : j < bs.length := by have := (List.getElem?_eq_some_iff.1 hj).1; simpa [bcells] using this
    have h1 := HB1.out j hj'
    rw [Nat.zero_add] at h1
    have h2 : u = .int .u8 bs[j].toNat := by simp [bcells, hj'] at hj; exact hj.symm
    rw [h2, ← h1]
    cases j <;> simp [Addr.add]
  case h1 => intro u hu; simp [bcells] at hu; obtain ⟨x, _, rfl⟩ := hu; rfl
  case c3 => unfold maxLen; omega
  case c4 => omega
  case c5 => omega
  intro v' w2 hown hgrow _
  have hlen : (Orch.be bs.length 4 ++ bs).length = 4 + bs.length := by rw [List.length_append, Orch.be_length]
  have hcat : bcells (Orch.be bs.length 4 ++ bs) = bcells (Orch.be bs.length 4) ++ bcells bs := by simp [bcells]
  have HO2 : Hid (w2.ownsRow w.heap.size 5 1 v' (Orch.be bs.length 4 ++ bs).length (bcells (Orch.be bs.length 4 ++ bs))) := by show World.ownsRow _ _ _ _ _ _ _; rw [hlen, hcat]; exact hown
  have HB2 : Hid (Below w.heap.size w w2) := HW.out.grown hgrow hs1 (fun j hj => (HO.out.lt j hj).1)
  clear hown hgrow hlen hcat
  go_wp2
  exact bodyPost_ret (v := .tuple #[v', .int .i64 0]) (by simp [results, Tryz.results94, go_sem]) rfl ⟨v', rfl, HO2.out, HB2.out⟩

end Go.Proofs.YtlghcldiboecoaaGreatDoor

/- Frame. -/
namespace Go.Proofs.YtlghcldiboecoaaGreatDoor
open Go.RowKit

set_option maxHeartbeats 4000000 in
theorem make_long (w : World) (g c : Nat) (bs : List UInt8) (hl : 1000 < bs.length) (hm : bs.length ≤ 4000000) :
    Calls Tryz.prog 137 #[.slice (some ⟨g, 0, none⟩) bs.length c] w fun e w' => e = .returned (.tuple #[.slice none 0 0, .bool false]) ∧ w' = w := by
  go_enter Tryz.func137, Tryz.ntmps137
  have hz : (1000 : Int) < (bs.length : Int) := by omega
  go_wp2
  exact bodyPost_ret (v := .tuple #[.slice none 0 0, .bool false]) (by simp [results, Tryz.results137, go_sem]) rfl ⟨rfl, rfl⟩

set_option maxHeartbeats 4000000 in
theorem frame_long (w : World) (g c : Nat) (bs : List UInt8) (hl : 1000 < bs.length) (hm : bs.length ≤ 4000000) :
    Calls Tryz.prog 93 #[.slice (some ⟨g, 0, none⟩) bs.length c] w fun e w' => e = .returned (.tuple #[.slice none 0 0, .int .i64 4]) ∧ w' = w := by
  have HM := hide (make_long w g c bs hl hm)
  go_enter Tryz.func93, Tryz.ntmps93
  go_wp2_with fail
  refine HM.out.mono ?_
  rintro e w1 ⟨rfl, hw1⟩
  have hw2 := hw1.symm
  clear hw1 HM
  subst hw2
  go_wp2
  exact bodyPost_ret (v := .tuple #[.slice none 0 0, .int .i64 4]) (by simp [results, Tryz.results93, go_sem]) rfl ⟨rfl, rfl⟩

set_option maxRecDepth 10000 in
set_option maxHeartbeats 4000000 in
theorem make_any (w : World) (g c : Nat) (bs : List UInt8) (hb : Bytes w g 0 bs) (hg : g < w.heap.size) (hl : bs.length ≤ 1000) :
    Calls Tryz.prog 137 #[.slice (some ⟨g, 0, none⟩) bs.length c] w fun e w' => ∃ v', e = .returned (.tuple #[v', .bool true]) ∧ w'.ownsRow w.heap.size 5 1 v' (Orch.be bs.length 4 ++ bs).length (bcells (Orch.be bs.length 4 ++ bs)) ∧ Below w.heap.size w w' := by
  have HB := hide hb
  clear hb
  go_enter Tryz.func137, Tryz.ntmps137
  have hz : ¬ (1000 : Int) < (bs.length : Int) := by omega
  obtain ⟨i0, hi0, hz0, hz1, hz2⟩ := info_parts Tryz.info5
  have hmk := run_make (P := Tryz.prog) w 57 5 i0 _ Tryz.underlying57 hi0 hz0 .i64 .i64 (0 : Int) (4 + (bs.length : Int)) (by omega) (by omega) (by rw [hz2]; omega) (by omega)
  go_wp2_with fail
  clear hmk
  have hO0 : (w.alloc (.cells (madeCells #[Value.int .u8 0] (4 + bs.length)) 5)).ownsRow w.heap.size 5 1 (.slice (some ⟨w.heap.size, 0, none⟩) 0 (4 + bs.length)) ([] : List UInt8).length (bcells []) :=
    ⟨rfl, .inr ⟨w.heap.size, 4 + bs.length, _, rfl, Nat.le_refl _, heap_alloc_new w _, Nat.zero_le _, by unfold maxLen; omega, by simp [madeCells], by simp [bcells]⟩⟩
  have hA := append2 _ w.heap.size _ (bs.length : Int) 4 [] (by omega) hO0 (by simp) (by simp)
  have HA := hide hA
  have HW0 := hide (below1 w (.cells (madeCells #[Value.int .u8 0] (4 + bs.length)) 5))
  clear hO0 hA
  refine HA.out.mono ?_
  rintro e w1 ⟨v1, rfl, hown, hout⟩
  have hbel : Below w.heap.size w w1 := HW0.out.trans (hout.low (base := w.heap.size) (by simp) (fun g hg => by simp [Value.ownBlock] at hg; omega))
  have hlen4 : ([] ++ Orch.be (bs.length : Int) 4).length = 4 := by rw [List.nil_append, Orch.be_length]
  rw [hlen4, List.nil_append] at hown
  obtain ⟨qa, qc, hqv⟩ : ∃ a c, v1 = .slice a 4 c := by
    rcases hown.2 with ⟨e, h⟩ | ⟨g, cap, cur, e, _⟩
    · omega
    · exact ⟨_, _, e⟩
  subst hqv
  have HO := hide hown
  have HW := hide hbel
  have hby1 := bytes_below HB.out hbel
  have HB1 := hide hby1
  have hs1 := hbel.size
  clear hown hbel hby1 HA HW0 hout hlen4
  go_wp2_with (at_builtin; refine wpList_append_own _ rfl _ _ 57 rfl w.heap.size 5 i0 (.int .u8 0) 1 1 Tryz.underlying57 hi0 hz0 hz1 hz2 rfl (by decide) _ _ _ rfl HO.out ⟨g, 0, none⟩ bs.length c (bcells bs) rfl ?hl ?hn ?h1 ?c3 ?c4 ?c5 ?_)
  case hl => simp [bcells]
  case hn =>
    intro j u hj
    have hj' : j < bs.length := by have := (List.getElem?_eq_some_iff.1 hj).1; simpa [bcells] using this
    have h1 := HB1.out j hj'
    rw [Nat.zero_add] at h1
    have h2 : u = .int .u8 bs[j].toNat := by simp [bcells, hj'] at hj; exact hj.symm
    rw [h2, ← h1]
    cases j <;> simp [Addr.add]
  case h1 => intro u hu; simp [bcells] at hu; obtain ⟨x, _, rfl⟩ := hu; rfl
  case c3 => unfold maxLen; omega
  case c4 => omega
  case c5 => omega
  intro v' w2 hown hgrow _
  have hlen : (Orch.be bs.length 4 ++ bs).length = 4 + bs.length := by rw [List.length_append, Orch.be_length]
  have hcat : bcells (Orch.be bs.length 4 ++ bs) = bcells (Orch.be bs.length 4) ++ bcells bs := by simp [bcells]
  have HO2 : Hid (w2.ownsRow w.heap.size 5 1 v' (Orch.be bs.length 4 ++ bs).length (bcells (Orch.be bs.length 4 ++ bs))) := by show World.ownsRow _ _ _ _ _ _ _; rw [hlen, hcat]; exact hown
  have HB2 : Hid (Below w.heap.size w w2) := HW.out.grown hgrow hs1 (fun j hj => (HO.out.lt j hj).1)
  clear hown hgrow hlen hcat
  go_wp2
  exact bodyPost_ret (v := .tuple #[v', .bool true]) (by simp [results, Tryz.results137, go_sem]) rfl ⟨v', rfl, HO2.out, HB2.out⟩

set_option maxRecDepth 10000 in
set_option maxHeartbeats 4000000 in
theorem frame_any (w : World) (g c : Nat) (bs : List UInt8) (hb : Bytes w g 0 bs) (hg : g < w.heap.size) (hl : bs.length ≤ 1000) :
    Calls Tryz.prog 93 #[.slice (some ⟨g, 0, none⟩) bs.length c] w fun e w' => ∃ v', e = .returned (.tuple #[v', .int .i64 0]) ∧ w'.ownsRow w.heap.size 5 1 v' (Orch.be bs.length 4 ++ bs).length (bcells (Orch.be bs.length 4 ++ bs)) ∧ Below w.heap.size w w' := by
  have HM := hide (make_any w g c bs hb hg hl)
  go_enter Tryz.func93, Tryz.ntmps93
  go_wp2_with fail
  refine HM.out.mono ?_
  rintro e w1 ⟨v', rfl, hown, hbel⟩
  have HO := hide hown
  have HW := hide hbel
  clear hown hbel HM
  go_wp2
  exact bodyPost_ret (v := .tuple #[v', .int .i64 0]) (by simp [results, Tryz.results93, go_sem]) rfl ⟨v', rfl, HO.out, HW.out⟩

end Go.Proofs.YtlghcldiboecoaaGreatDoor

/- The lone functions that Reads and Disks reach are tame; the two ways of telling frames are one. -/
namespace Go.Proofs.YtlghcldiboecoaaGreatDoor
open Go Go.Pair

def Lr : List FuncId := [11, 12, 13, 14, 15, 16, 24, 25, 27, 28, 29, 30, 31, 32, 33, 34, 35, 36, 37, 38, 39, 40, 41, 51, 52, 56, 57, 58, 59, 60, 61, 62, 63, 64, 65, 77, 78, 79, 80, 81, 82, 83, 84, 85, 86, 87, 88, 89, 90, 91, 92, 93, 94, 95, 96, 98, 99, 100, 114, 115, 124, 125, 126, 127, 128, 129, 130, 131, 132, 133, 134, 135, 136, 137, 138, 140, 144, 172, 173, 174, 175, 176, 177, 178, 179, 180, 181, 240, 241, 242, 243, 244, 245, 251, 252, 291, 292, 293, 294, 295, 320, 337]

theorem lr_all : (Lr.all fun f => funcOk Tryz.prog Lr f) = true := by kernel_rfl
theorem okLr : OkS Tryz.prog (· ∈ Lr) := okS_of fun f hf => List.all_eq_true.1 lr_all f hf

/-- A piece of lone code, beside leavers. -/
theorem lone_code {fn : FuncId} (hfn : ∃ f, Tryz.prog.funcs[fn]? = some f) {c : Code} (hc : codeOk Tryz.prog (Lr.contains ·) c = true) {Shun : Loc → Prop} {w : World} (hS : ShunT 271 Shun w) {a : Act} (had : a.defers = []) (ids : List Nat) {Ql : Exit → Act → World → Prop} {Q : Exit → Act → World → (Loc → Prop) → Prop} {Post : Value → World → Prop}
    (hQ : ∀ e a v, Ql e a v → e = .normal ∨ e = .ret ∨ ∃ id, id ∈ ids ∧ e = .exit id) (H : ∀ v, Sim (BsOf Shun) w v → c.wp Tryz.prog Ql a v)
    (hq : ∀ e a' w' v', Kept (BsOf Shun) w w' → Sim (BsOf Shun) w' v' → Ql e a' v' → Q e a' w' Shun) : wpE Tryz.prog Post fn c Q a w Shun := by
  have hL : ∀ f, (Lr.contains f) = true → ∃ fn c, Tryz.prog.funcs[f]? = some fn ∧ (fn.name == "runtime.NumGoroutine") = false ∧ fn.body = some c := fun f hf => by
    obtain ⟨fn, c, h1, h2, h3, _⟩ := okLr f (by simpa using hf)
    exact ⟨fn, c, h1, h2, h3⟩
  exact wpE_lone (S := (· ∈ Lr)) okLr (okC_of (S := (Lr.contains ·)) hL (fun f hf => by simpa using hf) hc) hfn (fun a h => shun_cell a h) hS.obj hS.cells had ids hQ H hq

theorem uns_one (l : List UInt8) : Cu.uns l = Orch.uns l := by
  unfold Cu.uns Orch.uns
  rfl

theorem rf_one : ∀ (n : Nat) (b : List UInt8), Cu.rf n b = rf n b
  | 0, _ => rfl
  | n + 1, b => by
    unfold Cu.rf
    rw [rf_succ, uns_one, rf_one n]

end Go.Proofs.YtlghcldiboecoaaGreatDoor

/- A reader of the program and the document's, fed the same: what they tell is the same. -/
namespace Go.Proofs.YtlghcldiboecoaaGreatDoor
open Go Go.Pair

/-- The two readers hold: the program's a part p, and whether a length was too great; the document's all bytes, and how many bodies were told. -/
structure Twins (all p : List UInt8) (tl : Bool) (told : Nat) : Prop where
  run : (Cu.runB [] all).2 = (p, tl)
  told : (Cu.runB [] all).1.length = told
  ok : Cu.OkP p
  shut : tl = true → p = []

theorem Twins.new : Twins [] [] false 0 := ⟨rfl, rfl, Cu.okP_nil, fun h => by cases h⟩

theorem ref_tells (l : List UInt8) : (rf l.length l).1 = (Cu.runB [] l).1 ∧ (rf l.length l).2 = !(Cu.runB [] l).2.2 := by
  obtain ⟨h1, h2⟩ := Cu.runB_rf l.length l (Nat.le_refl _)
  rw [rf_one] at h1 h2
  exact ⟨h1.symm, by rw [h2]; simp⟩

/-- More bytes, where no length was too great yet. -/
theorem Twins.feed {all p bs : List UInt8} {told : Nat} {bodies : List (List UInt8)} {q : List UInt8} {t : Bool} (h : Twins all p false told) (hC : Cu.Feeds p false bs bodies q t) :
    told ≤ (rf (all ++ bs).length (all ++ bs)).1.length ∧ (rf (all ++ bs).length (all ++ bs)).1.drop told = bodies ∧ (rf (all ++ bs).length (all ++ bs)).2 = !t ∧ Twins (all ++ bs) q t (rf (all ++ bs).length (all ++ bs)).1.length := by
  have hr := Cu.Feeds.run hC h.ok
  simp only [Cu.feedB, Bool.false_eq_true, if_false] at hr
  have ha := Cu.runB_app all bs []
  have h1 : (Cu.runB [] all).2.2 = false := by rw [h.run]
  have h2 : (Cu.runB [] all).2.1 = p := by rw [h.run]
  rw [h1, h2, hr] at ha
  simp only [Bool.false_eq_true, if_false] at ha
  obtain ⟨e1, e2⟩ := ref_tells (all ++ bs)
  rw [ha] at e1 e2
  simp only at e1 e2
  have ht := h.told
  refine ⟨by rw [e1, List.length_append]; omega, by rw [e1, ← ht, List.drop_left], e2, ?_, ?_, ?_, ?_⟩
  · rw [ha]
  · rw [ha, e1]
  · have hC' : Cu.Cuts p bs bodies q t := by simpa [Cu.Feeds] using hC
    exact hC'.ok h.ok
  · intro htt
    have := Cu.runB_shut bs p
    rw [hr] at this
    exact this htt

/-- Where one was, nothing more is told. -/
theorem Twins.shutFeed {all p bs : List UInt8} {told : Nat} {bodies : List (List UInt8)} {q : List UInt8} {t : Bool} (hC : Cu.Feeds p true bs bodies q t) : bodies = [] ∧ q = p ∧ t = true := by
  simpa [Cu.Feeds] using hC

theorem Twins.any {all p : List UInt8} {tl : Bool} {told : Nat} (h : Twins all p tl told) (bs : List UInt8) : ∃ bodies q t, Cu.Feeds p tl bs bodies q t := Cu.feeds_any' p tl bs h.ok
end Go.Proofs.YtlghcldiboecoaaGreatDoor

/- The caller's marks in lists of bodies. -/
namespace Go.Proofs.YtlghcldiboecoaaGreatDoor
open Go.RowKit

/-- A list of bodies that reads as the caller has written it: each of n + 1 bytes; in a block of bodies. -/
def MbAt (w : World) (B n : Nat) (v : Value) : Prop :=
  ∃ la ln lc, v = .slice la ln lc ∧ ln ≤ 9223372036854775806 ∧ ln ≤ lc ∧ ∀ i, i < ln → ∃ g a c, la = some ⟨g, 0, none⟩ ∧ g < B ∧ w.cell? ⟨g, i, none⟩ = some (.slice a (n + 1) c) ∧ ∃ cs, w.heap[g]? = some (.cells cs 57)

theorem MbAt.below {w w' : World} {B n : Nat} {v : Value} (h : MbAt w B n v) (hb : Below B w w') : MbAt w' B n v := by
  obtain ⟨la, ln, lc, hv, h1, h2, h3⟩ := h
  refine ⟨la, ln, lc, hv, h1, h2, fun i hi => ?_⟩
  obtain ⟨g, a, c, hg, hB, hc, cs, ht⟩ := h3 i hi
  exact ⟨g, a, c, hg, hB, (hb.cell (p := ⟨g, i, none⟩) hB).trans hc, cs, (hb.block g hB).trans ht⟩

set_option maxHeartbeats 2000000 in
theorem MbAt.calls {w : World} {B n : Nat} {v : Value} (h : MbAt w B n v) (hn : n ≤ 1000000000) (hB : B ≤ w.heap.size) :
    Calls Tryz.prog 57 #[v, .int .i64 n] w fun e w' => e = .returned (.bool true) ∧ Below w.heap.size w w' := by
  obtain ⟨la, ln, lc, rfl, h1, h2, h3⟩ := h
  have HE := hide h3
  clear h3
  go_enter Tryz.func57, Tryz.ntmps57
  go_wp2
  go_loopw [5] (fun k wr => ∃ i : Nat, k = .int .i64 i ∧ i ≤ ln ∧ Hid (Below w.heap.size w wr)) (fun k _ => ln - (intOf k).toNat)
  case atStart => exact ⟨0, rfl, Nat.zero_le _, Below.refl _ _⟩
  case round =>
    obtain ⟨i, rfl, hi, HB⟩ := hrel
    by_cases hlt : i < ln
    · have hltz : (i : Int) < (ln : Int) := by omega
      obtain ⟨g, a, c, rfl, hg, hc, _⟩ := HE.out i hlt
      have hc' := (HB.out.cell (p := ⟨g, i, none⟩) (Nat.lt_of_lt_of_le hg hB)).trans hc
      have a1 : (⟨g, 0, none⟩ : Addr).add i = ⟨g, i, none⟩ := by cases i <;> simp [Addr.add]
      have hd : Hid (Below w.heap.size w wr.drew) := HB.out.drew
      clear hc
      go_wp2
      go_roundw
      case rel => exact ⟨i + 1, by go_num, by omega, HB⟩
      case measure => first | (simp [intOf]; done) | (simp [intOf]; omega)
    · have hltz : ¬ (i : Int) < (ln : Int) := by omega
      go_wp2
      go_ret
      exact ⟨rfl, HB.out⟩

end Go.Proofs.YtlghcldiboecoaaGreatDoor

/- The caller's books, of bytes and of bodies: all marked as they should be. -/
namespace Go.Proofs.YtlghcldiboecoaaGreatDoor
open Go.RowKit

set_option maxRecDepth 8000 in
set_option maxHeartbeats 8000000 in
theorem wholeB_any (w : World) (K o : Nat) (ba : Option Addr) (N bc : Nat) (da : Option Addr) (M dc : Nat) (hK : K < w.heap.size) (hN : N ≤ 140737488355328) (hM : M ≤ 1000000000)
    (k0 : w.cell? ⟨K, o, none⟩ = some (.slice ba N bc)) (k1 : w.cell? ⟨K, o + 1, none⟩ = some (.slice da M dc)) (k2 : w.cell? ⟨K, o + 2, none⟩ = some (.slice none 0 0)) (k3 : w.cell? ⟨K, o + 3, none⟩ = some (.slice none 0 0))
    (HE : Hid (∀ i, i < N → ∃ g l a b c, ba = some ⟨g, 0, none⟩ ∧ g < w.heap.size ∧ N ≤ bc ∧ w.cell? ⟨g, i * 5, none⟩ = some l ∧ w.cell? ⟨g, i * 5 + 1, none⟩ = some a ∧ w.cell? ⟨g, i * 5 + 2, none⟩ = some b ∧ w.cell? ⟨g, i * 5 + 3, none⟩ = some c ∧ w.cell? ⟨g, i * 5 + 4, none⟩ = some (.int .i64 i) ∧ MkAt w w.heap.size i l ∧ MkAt w w.heap.size i a ∧ MkAt w w.heap.size i b ∧ MkAt w w.heap.size i c))
    (HD : Hid (∀ i, i < M → ∃ g l a b c, da = some ⟨g, 0, none⟩ ∧ g < w.heap.size ∧ M ≤ dc ∧ w.cell? ⟨g, i * 5, none⟩ = some l ∧ w.cell? ⟨g, i * 5 + 1, none⟩ = some a ∧ w.cell? ⟨g, i * 5 + 2, none⟩ = some b ∧ w.cell? ⟨g, i * 5 + 3, none⟩ = some c ∧ w.cell? ⟨g, i * 5 + 4, none⟩ = some (.int .i64 i) ∧ MbAt w w.heap.size i l ∧ MbAt w w.heap.size i a ∧ MbAt w w.heap.size i b ∧ MbAt w w.heap.size i c)) :
    Calls Tryz.prog 27 #[.pointer (some ⟨K, o, none⟩)] w fun e w' => e = .returned (.bool true) ∧ Below w.heap.size w w' := by
  have HK : Hid (∀ W, Below w.heap.size w W → W.cell? ⟨K, o, none⟩ = some (.slice ba N bc) ∧ W.cell? ⟨K, o + 1, none⟩ = some (.slice da M dc) ∧ W.cell? ⟨K, o + 2, none⟩ = some (.slice none 0 0) ∧ W.cell? ⟨K, o + 3, none⟩ = some (.slice none 0 0)) := fun W hb =>
    ⟨(hb.cell (p := ⟨K, o, none⟩) hK).trans k0, (hb.cell (p := ⟨K, o + 1, none⟩) hK).trans k1, (hb.cell (p := ⟨K, o + 2, none⟩) hK).trans k2, (hb.cell (p := ⟨K, o + 3, none⟩) hK).trans k3⟩
  clear k0 k1 k2 k3
  go_enter Tryz.func27, Tryz.ntmps27
  go_wp2
  go_loopw [3, 4] (fun b k wr => ∃ i : Nat, b = .bool true ∧ k = .int .i64 i ∧ i ≤ N ∧ Hid (Below w.heap.size w wr)) (fun _ k _ => N - (intOf k).toNat)
  case atStart => exact ⟨0, rfl, rfl, Nat.zero_le _, Below.refl _ _⟩
  case round =>
    obtain ⟨i, rfl, rfl, hi, HB⟩ := hrel
    obtain ⟨k0, k1, k2, k3⟩ := HK.out wr HB.out
    by_cases hlt : i < N
    · have hltz : (i : Int) < (N : Int) := by omega
      obtain ⟨g, l, a, b, c, hba, hg, hbc, e0, e1, e2, e3, e4, ml, ma, mb, mc⟩ := HE.out i hlt
      subst hba
      have f0 := (HB.out.cell (p := ⟨g, i * 5, none⟩) hg).trans e0
      have f1 := (HB.out.cell (p := ⟨g, i * 5 + 1, none⟩) hg).trans e1
      have f2 := (HB.out.cell (p := ⟨g, i * 5 + 2, none⟩) hg).trans e2
      have f3 := (HB.out.cell (p := ⟨g, i * 5 + 3, none⟩) hg).trans e3
      have f4 := (HB.out.cell (p := ⟨g, i * 5 + 4, none⟩) hg).trans e4
      clear e0 e1 e2 e3 e4 k1 k2 k3
      have ol : l.oneCell' = true := by obtain ⟨_, _, _, rfl, _⟩ := ml; rfl
      have HL : Hid (∀ W, Below w.heap.size w W → Calls Tryz.prog 56 #[l, .int .i64 i] W fun e w' => e = .returned (.bool true) ∧ Below W.heap.size W w') := fun W hb => (ml.below hb).calls (by omega) hb.size
      have HA : Hid (∀ W, Below w.heap.size w W → Calls Tryz.prog 56 #[a, .int .i64 i] W fun e w' => e = .returned (.bool true) ∧ Below W.heap.size W w') := fun W hb => (ma.below hb).calls (by omega) hb.size
      have HBB : Hid (∀ W, Below w.heap.size w W → Calls Tryz.prog 56 #[b, .int .i64 i] W fun e w' => e = .returned (.bool true) ∧ Below W.heap.size W w') := fun W hb => (mb.below hb).calls (by omega) hb.size
      have HCC : Hid (∀ W, Below w.heap.size w W → Calls Tryz.prog 56 #[c, .int .i64 i] W fun e w' => e = .returned (.bool true) ∧ Below W.heap.size W w') := fun W hb => (mc.below hb).calls (by omega) hb.size
      obtain ⟨l1, l2, l3, rfl, _⟩ := ml
      obtain ⟨a1, a2, a3, rfl, _⟩ := ma
      obtain ⟨b1, b2, b3, rfl, _⟩ := mb
      obtain ⟨c1, c2, c3, rfl, _⟩ := mc
      have HX := hid (heap_alloc_new wr (.cells #[.slice l1 l2 l3, .slice a1 a2 a3, .slice b1 b2 b3, .slice c1 c2 c3, .int .i64 i] 120))
      have HW : Hid (Below w.heap.size w (wr.alloc (.cells #[.slice l1 l2 l3, .slice a1 a2 a3, .slice b1 b2 b3, .slice c1 c2 c3, .int .i64 i] 120))) := HB.out.alloc HB.out.size _
      have x0 := cellOf (j := 0) HX.out rfl
      have x4 := cellOf (j := 4) HX.out rfl
      go_wp2_with (go_at_call 56; first
        | (refine (HL.out _ HW.out).mono ?_; rintro e w1 ⟨rfl, hb⟩; have HX1 : Hid (w1.heap[wr.heap.size]? = _) := (hb.block _ (ltOf HX.out)).trans HX.out; have HW1 : Hid (Below w.heap.size w w1) := HW.out.trans (hb.mono HW.out.size); clear hb HX HW x0 x4; have y0 := cellOf (j := 1) HX1.out rfl; have y4 := cellOf (j := 4) HX1.out rfl)
        | (refine (HA.out _ HW1.out).mono ?_; rintro e w2 ⟨rfl, hb⟩; have HX2 : Hid (w2.heap[wr.heap.size]? = _) := (hb.block _ (ltOf HX1.out)).trans HX1.out; have HW2 : Hid (Below w.heap.size w w2) := HW1.out.trans (hb.mono HW1.out.size); clear hb HX1 HW1 y0 y4; have z0 := cellOf (j := 2) HX2.out rfl; have z4 := cellOf (j := 4) HX2.out rfl)
        | (refine (HBB.out _ HW2.out).mono ?_; rintro e w3 ⟨rfl, hb⟩; have HX3 : Hid (w3.heap[wr.heap.size]? = _) := (hb.block _ (ltOf HX2.out)).trans HX2.out; have HW3 : Hid (Below w.heap.size w w3) := HW2.out.trans (hb.mono HW2.out.size); clear hb HX2 HW2 z0 z4; have u0 := cellOf (j := 3) HX3.out rfl; have u4 := cellOf (j := 4) HX3.out rfl)
        | (refine (HCC.out _ HW3.out).mono ?_; rintro e w4 ⟨rfl, hb⟩; have HW4 : Hid (Below w.heap.size w w4) := HW3.out.trans (hb.mono HW3.out.size); clear hb HX3 HW3 u0 u4))
      all_goals go_roundw
      all_goals try (case rel => exact ⟨i + 1, rfl, by go_num, by omega, HW4⟩)
      all_goals try (case measure => simp [intOf]; omega)
    · have hltz : ¬ (i : Int) < (N : Int) := by omega
      go_wp2
      clear k0 k1 k2 k3 hltz hlt hi
      have HB0 := HB
      clear HB
      go_loopw [3, 6] (fun b k wr => ∃ i : Nat, b = .bool true ∧ k = .int .i64 i ∧ i ≤ M ∧ Hid (Below w.heap.size w wr)) (fun _ k _ => M - (intOf k).toNat)
      case atStart => exact ⟨0, rfl, rfl, Nat.zero_le _, HB0⟩
      case round =>
        obtain ⟨i, rfl, rfl, hi, HB⟩ := hrel
        obtain ⟨k0, k1, k2, k3⟩ := HK.out wr HB.out
        by_cases hlt : i < M
        · have hltz : (i : Int) < (M : Int) := by omega
          obtain ⟨g, l, a, b, c, hba, hg, hbc, e0, e1, e2, e3, e4, ml, ma, mb, mc⟩ := HD.out i hlt
          subst hba
          have f0 := (HB.out.cell (p := ⟨g, i * 5, none⟩) hg).trans e0
          have f1 := (HB.out.cell (p := ⟨g, i * 5 + 1, none⟩) hg).trans e1
          have f2 := (HB.out.cell (p := ⟨g, i * 5 + 2, none⟩) hg).trans e2
          have f3 := (HB.out.cell (p := ⟨g, i * 5 + 3, none⟩) hg).trans e3
          have f4 := (HB.out.cell (p := ⟨g, i * 5 + 4, none⟩) hg).trans e4
          clear e0 e1 e2 e3 e4 k0 k2 k3
          have ol : l.oneCell' = true := by obtain ⟨_, _, _, rfl, _⟩ := ml; rfl
          have HL : Hid (∀ W, Below w.heap.size w W → Calls Tryz.prog 57 #[l, .int .i64 i] W fun e w' => e = .returned (.bool true) ∧ Below W.heap.size W w') := fun W hb => (ml.below hb).calls (by omega) hb.size
          have HA : Hid (∀ W, Below w.heap.size w W → Calls Tryz.prog 57 #[a, .int .i64 i] W fun e w' => e = .returned (.bool true) ∧ Below W.heap.size W w') := fun W hb => (ma.below hb).calls (by omega) hb.size
          have HBB : Hid (∀ W, Below w.heap.size w W → Calls Tryz.prog 57 #[b, .int .i64 i] W fun e w' => e = .returned (.bool true) ∧ Below W.heap.size W w') := fun W hb => (mb.below hb).calls (by omega) hb.size
          have HCC : Hid (∀ W, Below w.heap.size w W → Calls Tryz.prog 57 #[c, .int .i64 i] W fun e w' => e = .returned (.bool true) ∧ Below W.heap.size W w') := fun W hb => (mc.below hb).calls (by omega) hb.size
          obtain ⟨l1, l2, l3, rfl, _⟩ := ml
          obtain ⟨a1, a2, a3, rfl, _⟩ := ma
          obtain ⟨b1, b2, b3, rfl, _⟩ := mb
          obtain ⟨c1, c2, c3, rfl, _⟩ := mc
          have HX := hid (heap_alloc_new wr (.cells #[.slice l1 l2 l3, .slice a1 a2 a3, .slice b1 b2 b3, .slice c1 c2 c3, .int .i64 i] 124))
          have HW : Hid (Below w.heap.size w (wr.alloc (.cells #[.slice l1 l2 l3, .slice a1 a2 a3, .slice b1 b2 b3, .slice c1 c2 c3, .int .i64 i] 124))) := HB.out.alloc HB.out.size _
          have x0 := cellOf (j := 0) HX.out rfl
          have x4 := cellOf (j := 4) HX.out rfl
          go_wp2_with (go_at_call 57; first
            | (refine (HL.out _ HW.out).mono ?_; rintro e w1 ⟨rfl, hb⟩; have HX1 : Hid (w1.heap[wr.heap.size]? = _) := (hb.block _ (ltOf HX.out)).trans HX.out; have HW1 : Hid (Below w.heap.size w w1) := HW.out.trans (hb.mono HW.out.size); clear hb HX HW x0 x4; have y0 := cellOf (j := 1) HX1.out rfl; have y4 := cellOf (j := 4) HX1.out rfl)
            | (refine (HA.out _ HW1.out).mono ?_; rintro e w2 ⟨rfl, hb⟩; have HX2 : Hid (w2.heap[wr.heap.size]? = _) := (hb.block _ (ltOf HX1.out)).trans HX1.out; have HW2 : Hid (Below w.heap.size w w2) := HW1.out.trans (hb.mono HW1.out.size); clear hb HX1 HW1 y0 y4; have z0 := cellOf (j := 2) HX2.out rfl; have z4 := cellOf (j := 4) HX2.out rfl)
            | (refine (HBB.out _ HW2.out).mono ?_; rintro e w3 ⟨rfl, hb⟩; have HX3 : Hid (w3.heap[wr.heap.size]? = _) := (hb.block _ (ltOf HX2.out)).trans HX2.out; have HW3 : Hid (Below w.heap.size w w3) := HW2.out.trans (hb.mono HW2.out.size); clear hb HX2 HW2 z0 z4; have u0 := cellOf (j := 3) HX3.out rfl; have u4 := cellOf (j := 4) HX3.out rfl)
            | (refine (HCC.out _ HW3.out).mono ?_; rintro e w4 ⟨rfl, hb⟩; have HW4 : Hid (Below w.heap.size w w4) := HW3.out.trans (hb.mono HW3.out.size); clear hb HX3 HW3 u0 u4))
          all_goals go_roundw
          all_goals try (case rel => exact ⟨i + 1, rfl, by go_num, by omega, HW4⟩)
          all_goals try (case measure => simp [intOf]; omega)
        · have hltz : ¬ (i : Int) < (M : Int) := by omega
          go_wp2
          refine wp_loop_rounds 1 ?_
          rw [rounds_succ]
          go_wp2
          refine wp_loop_rounds 1 ?_
          rw [rounds_succ]
          go_wp2
          all_goals go_ret
          all_goals exact ⟨rfl, HB.out⟩

end Go.Proofs.YtlghcldiboecoaaGreatDoor
