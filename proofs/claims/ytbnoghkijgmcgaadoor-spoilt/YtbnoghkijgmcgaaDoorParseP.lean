/- parseParts. -/
import Derived.Test.YtbnoghkijgmcgaaDoorParse
import Derived.BigQuiet
import Derived.Deep.QuietTactic
set_option linter.unusedVariables false
namespace Go.Proofs.YtbnoghkijgmcgaaDoor
open Go.RowKit

def strLen : Value → Nat | .string s => s.size | _ => 0

theorem hide {p : Prop} (h : p) : Hid p := h

theorem Table.pos {w : World} (h : Table w) : 2 ≤ w.heap.size := by obtain ⟨t, fr, h⟩ := h; exact ltOf h

theorem str_cons (s : ByteArray) (h : 0 < s.size) : s.data.toList = s[0] :: (s.extract 1 s.size).data.toList := by
  rw [Lib.extract_data]
  have h' : 0 < s.data.toList.length := by rw [← Lib.size_eq]; exact h
  have e := List.drop_eq_getElem_cons h'
  rw [List.drop_zero] at e
  rw [List.take_of_length_le (by rw [List.length_drop, Lib.size_eq]; exact Nat.le_refl _)]
  exact e

set_option maxRecDepth 8000 in
set_option maxHeartbeats 1000000 in
theorem pp_of_pt (k : Nat) (hk9 : k ≤ 9) (ih : PtSaid k) : PpSaid k := by
  intro w s l d hT hs hd
  have HIH : Hid (PtSaid k) := ih
  obtain ⟨TOT, hTOT⟩ : ∃ TOT, Orch.parts (Orch.ptype k) l (s.size + 1) s.data.toList [] = TOT := ⟨_, rfl⟩
  rw [hTOT]
  have HTOT : Hid (Orch.parts (Orch.ptype k) l (s.size + 1) s.data.toList [] = TOT) := hTOT
  have HT : Hid (Table w) := hT
  have hpos := hT.pos
  clear hTOT ih hT
  go_enter Tryd.func46, Tryd.ntmps46
  go_wp2
  go_loopw [0, 9] (fun s0 u wr => ∃ (sr : ByteArray) (ps : List (Orch.Ty × Value)) (m : Nat), s0 = .string sr ∧ Hid (Orch.parts (Orch.ptype k) l m sr.data.toList (ps.map Prod.fst) = TOT) ∧ sr.size < m ∧ ps.length + sr.size ≤ 64 ∧
      Hid (wr.ownsRow (w.heap.size + 1) 62 8 u ps.length (ps.flatMap tcell)) ∧ Hid (∀ p, p ∈ ps → TsAt wr (Beside (w.heap.size + 1) u wr) p.1.ps p.2) ∧ Hid (Below w.heap.size w wr) ∧
      Hid (wr.heap[w.heap.size]? = some (.cells #[.int .u8 l.sign.toNat, .int .i64 l.shape, .int .i64 l.size, .int .i64 l.least, .int .i64 l.most, .bool l.text, .int .u8 l.fin.toNat] 59)))
    (fun s0 _ _ => strLen s0)
  case atStart => exact ⟨s, [], s.size + 1, rfl, HTOT, by omega, by simpa using hs, World.ownsRow_nil _ _ _ _, (fun p hp => by simp at hp), below1 _ _, heap_alloc_new _ _⟩
  case round =>
    obtain ⟨sr, ps, m, rfl, HP, hm, hlen, HO, HPS, HB, HH⟩ := hrel
    have c1 := cellOf (j := 1) HH.out rfl
    have c6 := cellOf (j := 6) HH.out rfl
    by_cases h0 : sr.size = 0
    · have hnil : sr.toList = [] := (toList_nil sr).2 h0
      have HN : Hid (TOT = none) := by
        show _ = _
        rw [← HP.out]
        cases m with
        | zero => rfl
        | succ m => rw [← Lib.toList_data, hnil]; rfl
      clear HP
      go_wp2
      go_region
      all_goals go_wp2
      all_goals go_ret3
      all_goals exact ⟨by rw [HN.out]; rfl, by first | exact HB.out | exact HB.out.drew⟩
    · have hne : ¬ sr.toList = [] := fun h => h0 ((toList_nil sr).1 h)
      have hnE : sr.toList.isEmpty = false := by
        cases h : sr.toList with
        | nil => exact absurd h hne
        | cons _ _ => rfl
      have hnB : (sr.toList == []) = false := by simpa using hne
      have hpz : (0 : Int) < (sr.size : Int) := by omega
      have hpn : 0 < sr.size := by omega
      obtain ⟨x0, hx0⟩ : ∃ x0, sr[0] = x0 := ⟨_, rfl⟩
      have HC : Hid (sr.data.toList = x0 :: (sr.extract 1 sr.size).data.toList) := by
        show _ = _
        rw [str_cons sr hpn, hx0]
      obtain ⟨m', rfl⟩ : ∃ m', m = m' + 1 := ⟨m - 1, by omega⟩
      by_cases hf : x0 = l.fin
      · have hft : ((x0.toNat : Int) == (l.fin.toNat : Int)) = true := by rw [hf]; simp
        have HN : Hid (TOT = if ps.length = 0 ∨ l.shape = 2 ∧ 1 < ps.length then none else some (ps.map Prod.fst, (sr.extract 1 sr.size).data.toList)) := by
          show _ = _
          rw [← HP.out, HC.out, Orch.parts, if_pos hf, List.length_map]
        clear HP HC hf
        obtain ⟨ua, uc, hu9⟩ : ∃ a c, u9 = .slice a ps.length c := by
          rcases HO.out.2 with ⟨e, h⟩ | ⟨g, cap, cur, e, _⟩
          · exact ⟨none, 0, by rw [e, h]⟩
          · exact ⟨_, _, e⟩
        have HU : Hid (u9 = .slice ua ps.length uc) := hu9
        rw [hu9] at HO HPS ⊢
        clear hu9 HU
        have HD : Hid (∀ W : World, W.heap = wr.heap → TsAt W (fun b => w.heap.size ≤ b ∧ b < W.heap.size) (ps.map Prod.fst) (.slice ua ps.length uc)) := fun W hW => (done_T HO.out HPS.out (Nat.le_succ _)).congr (fun b h => by rw [hW]; exact h) (fun b _ => by rw [hW])
        by_cases hz : ps.length = 0
        · have hzb : ((ps.length : Int) == 0) = true := by simpa using hz
          have HR : Hid (TOT = none) := by
            show _ = _
            rw [HN.out, if_pos (Or.inl hz)]
          clear HN
          go_wp2
          go_region
          all_goals go_wp2
          all_goals go_ret3
          all_goals exact ⟨by rw [HR.out]; rfl, by first | exact HB.out | exact HB.out.drew⟩
        · have hzb : ((ps.length : Int) == 0) = false := by
            rw [beq_eq_false_iff_ne]; omega
          by_cases h2 : l.shape = 2
          · have h2b : ((l.shape : Int) == 2) = true := by rw [h2]; rfl
            by_cases h1 : 1 < ps.length
            · have h1z : (1 : Int) < (ps.length : Int) := by omega
              have HR : Hid (TOT = none) := by
                show _ = _
                rw [HN.out, if_pos (Or.inr ⟨h2, h1⟩)]
              clear HN hz h2
              go_wp2
              go_region
              all_goals go_wp2
              all_goals go_ret3
              all_goals exact ⟨by rw [HR.out]; rfl, by first | exact HB.out | exact HB.out.drew⟩
            · have h1z : ¬ (1 : Int) < (ps.length : Int) := by omega
              have HR : Hid (TOT = some (ps.map Prod.fst, (sr.extract 1 sr.size).data.toList)) := by
                show _ = _
                rw [HN.out, if_neg (by omega)]
              clear HN hz h2
              go_wp2
              go_region
              all_goals go_wp2
              all_goals go_region
              all_goals go_wp2
              all_goals go_ret3
              all_goals exact ⟨by rw [HR.out]; exact ⟨_, _, rfl, rfl, HD.out _ rfl⟩, by first | exact HB.out.drew.drew | exact HB.out.drew⟩
          · have h2b : ((l.shape : Int) == 2) = false := by
              rw [beq_eq_false_iff_ne]; omega
            have HR : Hid (TOT = some (ps.map Prod.fst, (sr.extract 1 sr.size).data.toList)) := by
              show _ = _
              rw [HN.out, if_neg (by omega)]
            clear HN hz h2
            go_wp2
            go_region
            all_goals go_wp2
            all_goals go_region
            all_goals go_wp2
            all_goals go_ret3
            all_goals exact ⟨by rw [HR.out]; exact ⟨_, _, rfl, rfl, HD.out _ rfl⟩, by first | exact HB.out.drew.drew | exact HB.out.drew⟩
      · have hft : ((x0.toNat : Int) == (l.fin.toNat : Int)) = false := by
          rw [beq_eq_false_iff_ne]
          intro h
          exact hf (UInt8.toNat_inj.1 (by omega))
        have HN : Hid (TOT = match Orch.ptype k sr.data.toList with
            | none => none
            | some (t, rest) => Orch.parts (Orch.ptype k) l m' rest (ps.map Prod.fst ++ [t])) := by
          show _ = _
          rw [← HP.out, HC.out, Orch.parts, if_neg hf]
          rfl
        have hszr : sr.size ≤ 64 := by omega
        have HTr : Hid (Table wr) := HT.out.below HB.out hpos
        have HL : Hid (∀ t r, Orch.ptype k sr.data.toList = some (t, r) → r.length < sr.size) := fun t r h => by
          rw [Lib.size_eq]; exact ptype_len _ _ _ _ h
        clear HP HC hf
        cases hpt : Orch.ptype k sr.data.toList with
        | none =>
          have HR : Hid (TOT = none) := by
            show _ = _
            rw [HN.out, hpt]
          have HCALL : Hid (∀ w', Table w' → Calls Tryd.prog 31 #[.string sr, .int .i64 d] w' fun e w'' => noType e ∧ Below w'.heap.size w' w'') := fun w' ht => by
            have := HIH.out w' sr d ht hszr hd
            rw [hpt] at this
            exact this
          clear HN hpt HL
          go_wp2
          go_region
          all_goals go_wp2_with (go_at_call 31; refine (HCALL.out _ (by first | exact HTr.out | exact HTr.out.below (Below.refl _ _).drew HTr.out.pos)).mono ?_; rintro e w1 ⟨⟨ta, tb, tc, td, tf, tx, tg, tp, tm, tn, tr, rfl⟩, hb1⟩; have HB1 : Hid (Below wr.heap.size wr w1) := Below.trans (below_drew _) hb1; clear hb1)
          all_goals go_ret3
          all_goals exact ⟨by rw [HR.out]; rfl, (HB.out.trans (HB1.out.mono HB.out.size)).alloc (by have := HB.out.size; have := HB1.out.size; omega) _⟩
        | some tr =>
          obtain ⟨t, rest⟩ := tr
          have hrl := HL.out t rest hpt
          have HR : Hid (Orch.parts (Orch.ptype k) l m' rest (ps.map Prod.fst ++ [t]) = TOT) := by
            show _ = _
            rw [HN.out, hpt]
          have HCALL : Hid (∀ w', Table w' → Calls Tryd.prog 31 #[.string sr, .int .i64 d] w' fun e w'' => (∃ psv r, e = .returned (.tuple #[tval t.l psv, .string r, .bool true]) ∧ r.data.toList = rest ∧ TsAt w'' (fun b => w'.heap.size ≤ b ∧ b < w''.heap.size) t.ps psv) ∧ Below w'.heap.size w' w'') := fun w' ht => by
            have := HIH.out w' sr d ht hszr hd
            rw [hpt] at this
            exact this
          clear HN hpt HL HIH HT HTOT
          obtain ⟨i0, hi, hz0, hz1, hz2⟩ := info_parts Tryd.info62
          go_wp2
          go_region
          all_goals go_wp2_with (first | (at_builtin; refine wpList_append_lies _ rfl _ _ 60 rfl (w.heap.size + 1) 62 i0 (tyv 0 0 0 0 0 false 0 (.slice none 0 0)) 8 72 Tryd.underlying60 hi hz0 hz1 hz2 rfl (by decide) _ _ _ rfl (((ownsRow_below HO.out HB1.out).alloc _).alloc _) ⟨w1.heap.size + 1, 0, none⟩ 1 1 (tcell (t, .slice pa t.ps.length pc)) rfl rfl ?hn ?h1 (by decide) ?c3 ?c4 ?c5 (w1.heap.size + 1 + 1) ?hH ?_) | (go_at_call 31; refine (HCALL.out _ (by first | exact HTr.out | exact HTr.out.below (Below.refl _ _).drew HTr.out.pos)).mono ?_; rintro e w1 ⟨⟨psv, r, rfl, hr, hts⟩, hb1⟩; have HB1 : Hid (Below wr.heap.size wr w1) := Below.trans (below_drew _) hb1; have HRR : Hid (r.data.toList = rest) := hr; obtain ⟨pa, pc, rfl⟩ := hts.shape; have HTS : Hid (TsAt w1 (fun b => wr.heap.size ≤ b ∧ b < w1.heap.size) t.ps (.slice pa t.ps.length pc)) := hts; clear hb1 hr hts))
          case hn => exact World.news_of_block (new2 w1 _ _).2
          case h1 => intro u hu; simp only [tcell, List.mem_cons, List.mem_nil_iff, or_false] at hu; rcases hu with rfl | rfl | rfl | rfl | rfl | rfl | rfl | rfl <;> rfl
          case c3 => unfold maxLen; omega
          case c4 => omega
          case c5 => have := HB.out.size; have := HB1.out.size; simp; omega
          case hH => simp
          intro g cap w3 hown3 hgr hat _
          obtain ⟨r1, r2, r3⟩ := grow_T (t := t) (x := .slice pa t.ps.length pc) (by have := ltOf HH.out; omega) HO.out HPS.out HB1.out HTS.out (below2 w1 _ _) hown3 hgr (by simpa using hat)
          have hsr : r.size < sr.size := by rw [Lib.size_eq r, HRR.out]; exact hrl
          have HR2 : Hid (Orch.parts (Orch.ptype k) l m' r.data.toList ((ps ++ [(t, Value.slice pa t.ps.length pc)]).map Prod.fst) = TOT) := by
            show _ = _
            rw [HRR.out, List.map_append]
            exact HR.out
          have R1 := hide r1
          have R2 := hide r2
          have R3 : Hid (Below w.heap.size w w3) := HB.out.trans (r3.mono (Nat.le_succ _))
          have R4 : Hid (w3.heap[w.heap.size]? = _) := (r3.block _ (Nat.lt_succ_self _)).trans HH.out
          clear r1 r2 r3 hown3 hgr hat
          go_wp2
          go_roundw
          case rel => exact ⟨r, ps ++ [(t, .slice pa t.ps.length pc)], m', rfl, HR2, by omega, by rw [List.length_append, List.length_singleton]; omega, R1, R2, R3, R4⟩
          case measure => simp [strLen]; omega
end Go.Proofs.YtbnoghkijgmcgaaDoor
