/- parseParts. -/
import Derived.Test.YtlghcldiboecoaaGreatDoorParse
import Derived.BigQuiet
import Derived.Deep.QuietTactic
set_option linter.unusedVariables false
namespace Go.Proofs.YtlghcldiboecoaaGreatDoor
open Go.RowKit

def strLen : Value → Nat | .string s => s.size | _ => 0

theorem hide {p : Prop} (h : p) : Hid p := h

theorem Table.pos {w : World} (h : Table w) : 4 ≤ w.heap.size := by obtain ⟨t, fr, h⟩ := h; exact ltOf h

theorem str_cons (s : ByteArray) (h : 0 < s.size) : s.data.toList = s[0] :: (s.extract 1 s.size).data.toList := by
  rw [Lib.extract_data]
  have h' : 0 < s.data.toList.length := by rw [← Lib.size_eq]; exact h
  have e := List.drop_eq_getElem_cons h'
  rw [List.drop_zero] at e
  rw [List.take_of_length_le (by rw [List.length_drop, Lib.size_eq]; exact Nat.le_refl _)]
  exact e

set_option maxRecDepth 8000 in
set_option maxHeartbeats 1000000 in
theorem pp_of_pt (k : Nat) (hk9 : k ≤ 9) (ih : PtSaid k) : PpSaid k := by
  intro w s l d hT hs hd
  have HIH : Hid (PtSaid k) := ih
  obtain ⟨TOT, hTOT⟩ : ∃ TOT, Orch.parts (Orch.ptype k) l (s.size + 1) s.data.toList [] = TOT := ⟨_, rfl⟩
  rw [hTOT]
  have HTOT : Hid (Orch.parts (Orch.ptype k) l (s.size + 1) s.data.toList [] = TOT) := hTOT
  have HT : Hid (Table w) := hT
  have hpos := hT.pos
  clear hTOT ih hT
  go_enter Tryz.func242, Tryz.ntmps242
  go_wp2
  go_loopw [0, 9] (fun s0 u wr => ∃ (sr : ByteArray) (ps : List (Orch.Ty × Value)) (m : Nat), s0 = .string sr ∧ Hid (Orch.parts (Orch.ptype k) l m sr.data.toList (ps.map Prod.fst) = TOT) ∧ sr.size < m ∧ ps.length + sr.size ≤ 64 ∧
      Hid (wr.ownsRow (w.heap.size + 1) 227 8 u ps.length (ps.flatMap tcell)) ∧ Hid (∀ p, p ∈ ps → TsAt wr (Beside (w.heap.size + 1) u wr) p.1.ps p.2) ∧ Hid (Below w.heap.size w wr) ∧
      Hid (wr.heap[w.heap.size]? = some (.cells #[.int .u8 l.sign.toNat, .int .i64 l.shape, .int .i64 l.size, .int .i64 l.least, .int .i64 l.most, .bool l.text, .int .u8 l.fin.toNat] 224)))
    (fun s0 _ _ => strLen s0)
  case atStart => exact ⟨s, [], s.size + 1, rfl, HTOT, by omega, by simpa using hs, World.ownsRow_nil _ _ _ _, (fun p hp => by simp at hp), below1 _ _, heap_alloc_new _ _⟩
  case round =>
    obtain ⟨sr, ps, m, rfl, HP, hm, hlen, HO, HPS, HB, HH⟩ := hrel
    have c1 := cellOf (j := 1) HH.out rfl
    have c6 := cellOf (j := 6) HH.out rfl
    by_cases h0 : sr.size = 0
    · have hnil : sr.toList = [] := (toList_nil sr).2 h0
      have HN : Hid (TOT = none) := by
        show _ = _
        rw [← HP.out]
        cases m with
        | zero => rfl
        | succ m => rw [← Lib.toList_data, hnil]; rfl
      clear HP
      go_wp2
      go_region
      all_goals go_wp2
      all_goals go_ret3
      all_goals exact ⟨by rw [HN.out]; rfl, by first | exact HB.out | exact HB.out.drew⟩
    · have hne : ¬ sr.toList = [] := fun h => h0 ((toList_nil sr).1 h)
      have hnE : sr.toList.isEmpty = false := by
        cases h : sr.toList with
        | nil => exact absurd h hne
        | cons _ _ => rfl
      have hnB : (sr.toList == []) = false := by simpa using hne
      have hpz : (0 : Int) < (sr.size : Int) := by omega
      have hpn : 0 < sr.size := by omega
      obtain ⟨x0, hx0⟩ : ∃ x0, sr[0] = x0 := ⟨_, rfl⟩
      have HC : Hid (sr.data.toList = x0 :: (sr.extract 1 sr.size).data.toList) := by
        show _ = _
        rw [str_cons sr hpn, hx0]
      obtain ⟨m', rfl⟩ : ∃ m', m = m' + 1 := ⟨m - 1, by omega⟩
      by_cases hf : x0 = l.fin
      · have hft : ((x0.toNat : Int) == (l.fin.toNat : Int)) = true := by rw [hf]; simp
        have HN : Hid (TOT = if ps.length = 0 ∨ l.shape = 2 ∧ 1 < ps.length then none else some (ps.map Prod.fst, (sr.extract 1 sr.size).data.toList)) := by
          show _ = _
          rw [← HP.out, HC.out, Orch.parts, if_pos hf, List.length_map]
        clear HP HC hf
        obtain ⟨ua, uc, hu9⟩ : ∃ a c, u9 = .slice a ps.length c := by
          rcases HO.out.2 with ⟨e, h⟩ | ⟨g, cap, cur, e, _⟩
          · exact ⟨none, 0, by rw [e, h]⟩
          · exact ⟨_, _, e⟩
        have HU : Hid (u9 = .slice ua ps.length uc) := hu9
        rw [hu9] at HO HPS ⊢
        clear hu9 HU
        have HD : Hid (∀ W : World, W.heap = wr.heap → TsAt W (fun b => w.heap.size ≤ b ∧ b < W.heap.size) (ps.map Prod.fst) (.slice ua ps.length uc)) := fun W hW => (done_T HO.out HPS.out (Nat.le_succ _)).congr (fun b h => by rw [hW]; exact h) (fun b _ => by rw [hW])
        by_cases hz : ps.length = 0
        · have hzb : ((ps.length : Int) == 0) = true := by simpa using hz
          have HR : Hid (TOT = none) := by
            show _ = _
            rw [HN.out, if_pos (Or.inl hz)]
          clear HN
          go_wp2
          go_region
          all_goals go_wp2
          all_goals go_ret3
          all_goals exact ⟨by rw [HR.out]; rfl, by first | exact HB.out | exact HB.out.drew⟩
        · have hzb : ((ps.length : Int) == 0) = false := by
            rw [beq_eq_false_iff_ne]; omega
          by_cases h2 : l.shape = 2
          · have h2b : ((l.shape : Int) == 2) = true := by rw [h2]; rfl
            by_cases h1 : 1 < ps.length
            · have h1z : (1 : Int) < (ps.length : Int) := by omega
              have HR : Hid (TOT = none) := by
                show _ = _
                rw [HN.out, if_pos (Or.inr ⟨h2, h1⟩)]
              clear HN hz h2
              go_wp2
              go_region
              all_goals go_wp2
              all_goals go_ret3
              all_goals exact ⟨by rw [HR.out]; rfl, by first | exact HB.out | exact HB.out.drew⟩
            · have h1z : ¬ (1 : Int) < (ps.length : Int) := by omega
              have HR : Hid (TOT = some (ps.map Prod.fst, (sr.extract 1 sr.size).data.toList)) := by
                show _ = _
                rw [HN.out, if_neg (by omega)]
              clear HN hz h2
              go_wp2
              go_region
              all_goals go_wp2
              all_goals go_region
              all_goals go_wp2
              all_goals go_ret3
              all_goals exact ⟨by rw [HR.out]; exact ⟨_, _, rfl, rfl, HD.out _ rfl⟩, by first | exact HB.out.drew.drew | exact HB.out.drew⟩
          · have h2b : ((l.shape : Int) == 2) = false := by
              rw [beq_eq_false_iff_ne]; omega
            have HR : Hid (TOT = some (ps.map Prod.fst, (sr.extract 1 sr.size).data.toList)) := by
              show _ = _
              rw [HN.out, if_neg (by omega)]
            clear HN hz h2
            go_wp2
            go_region
            all_goals go_wp2
            all_goals go_region
            all_goals go_wp2
            all_goals go_ret3
            all_goals exact ⟨by rw [HR.out]; exact ⟨_, _, rfl, rfl, HD.out _ rfl⟩, by first | exact HB.out.drew.drew | exact HB.out.drew⟩
      · have hft : ((x0.toNat : Int) == (l.fin.toNat : Int)) = false := by
          rw [beq_eq_false_iff_ne]
          intro h
          exact hf (UInt8.toNat_inj.1 (by omega))
        have HN : Hid (TOT = match Orch.ptype k sr.data.toList with
            | none => none
            | some (t, rest) => Orch.parts (Orch.ptype k) l m' rest (ps.map Prod.fst ++ [t])) := by
          show _ = _
          rw [← HP.out, HC.out, Orch.parts, if_neg hf]
          rfl
        have hszr : sr.size ≤ 64 := by omega
        have HTr : Hid (Table wr) := HT.out.below HB.out hpos
        have HL : Hid (∀ t r, Orch.ptype k sr.data.toList = some (t, r) → r.length < sr.size) := fun t r h => by
          rw [Lib.size_eq]; exact ptype_len _ _ _ _ h
        clear HP HC hf
        cases hpt : Orch.ptype k sr.data.toList with
        | none =>
          have HR : Hid (TOT = none) := by
            show _ = _
            rw [HN.out, hpt]
          have HCALL : Hid (∀ w', Table w' → Calls Tryz.prog 176 #[.string sr, .int .i64 d] w' fun e w'' => noType e ∧ Below w'.heap.size w' w'') := fun w' ht => by
            have := HIH.out w' sr d ht hszr hd
            rw [hpt] at this
            exact this
          clear HN hpt HL
          go_wp2
          go_region
          all_goals go_wp2_with (go_at_call 176; refine (HCALL.out _ (by first | exact HTr.out | exact HTr.out.below (Below.refl _ _).drew HTr.out.pos)).mono ?_; rintro e w1 ⟨⟨ta, tb, tc, td, tf, tx, tg, tp, tm, tn, tr, rfl⟩, hb1⟩; have HB1 : Hid (Below wr.heap.size wr w1) := Below.trans (below_drew _) hb1; clear hb1)
          all_goals go_ret3
          all_goals exact ⟨by rw [HR.out]; rfl, (HB.out.trans (HB1.out.mono HB.out.size)).alloc (by have := HB.out.size; have := HB1.out.size; omega) _⟩
        | some tr =>
          obtain ⟨t, rest⟩ := tr
          have hrl := HL.out t rest hpt
          have HR : Hid (Orch.parts (Orch.ptype k) l m' rest (ps.map Prod.fst ++ [t]) = TOT) := by
            show _ = _
            rw [HN.out, hpt]
          have HCALL : Hid (∀ w', Table w' → Calls Tryz.prog 176 #[.string sr, .int .i64 d] w' fun e w'' => (∃ psv r, e = .returned (.tuple #[tval t.l psv, .string r, .bool true]) ∧ r.data.toList = rest ∧ TsAt w'' (fun b => w'.heap.size ≤ b ∧ b < w''.heap.size) t.ps psv) ∧ Below w'.heap.size w' w'') := fun w' ht => by
            have := HIH.out w' sr d ht hszr hd
            rw [hpt] at this
            exact this
          clear HN hpt HL HIH HT HTOT
          obtain ⟨i0, hi, hz0, hz1, hz2⟩ := info_parts Tryz.info227
          go_wp2
          go_region
          all_goals go_wp2_with (first | (at_builtin; refine wpList_append_lies _ rfl _ _ 225 rfl (w.heap.size + 1) 227 i0 (tyv 0 0 0 0 0 false 0 (.slice none 0 0)) 8 72 Tryz.underlying225 hi hz0 hz1 hz2 rfl (by decide) _ _ _ rfl (((ownsRow_below HO.out HB1.out).alloc _).alloc _) ⟨w1.heap.size + 1, 0, none⟩ 1 1 (tcell (t, .slice pa t.ps.length pc)) rfl rfl ?hn ?h1 (by decide) ?c3 ?c4 ?c5 (w1.heap.size + 1 + 1) ?hH ?_) | (go_at_call 176; refine (HCALL.out _ (by first | exact HTr.out | exact HTr.out.below (Below.refl _ _).drew HTr.out.pos)).mono ?_; rintro e w1 ⟨⟨psv, r, rfl, hr, hts⟩, hb1⟩; have HB1 : Hid (Below wr.heap.size wr w1) := Below.trans (below_drew _) hb1; have HRR : Hid (r.data.toList = rest) := hr; obtain ⟨pa, pc, rfl⟩ := hts.shape; have HTS : Hid (TsAt w1 (fun b => wr.heap.size ≤ b ∧ b < w1.heap.size) t.ps (.slice pa t.ps.length pc)) := hts; clear hb1 hr hts))
          case hn => exact World.news_of_block (new2 w1 _ _).2
          case h1 => intro u hu; simp only [tcell, List.mem_cons, List.mem_nil_iff, or_false] at hu; rcases hu with rfl | rfl | rfl | rfl | rfl | rfl | rfl | rfl <;> rfl
          case c3 => unfold maxLen; omega
          case c4 => omega
          case c5 => have := HB.out.size; have := HB1.out.size; simp; omega
          case hH => simp
          intro g cap w3 hown3 hgr hat _
          obtain ⟨r1, r2, r3⟩ := grow_T (t := t) (x := .slice pa t.ps.length pc) (by have := ltOf HH.out; omega) HO.out HPS.out HB1.out HTS.out (below2 w1 _ _) hown3 hgr (by simpa using hat)
          have hsr : r.size < sr.size := by rw [Lib.size_eq r, HRR.out]; exact hrl
          have HR2 : Hid (Orch.parts (Orch.ptype k) l m' r.data.toList ((ps ++ [(t, Value.slice pa t.ps.length pc)]).map Prod.fst) = TOT) := by
            show _ = _
            rw [HRR.out, List.map_append]
            exact HR.out
          have R1 := hide r1
          have R2 := hide r2
          have R3 : Hid (Below w.heap.size w w3) := HB.out.trans (r3.mono (Nat.le_succ _))
          have R4 : Hid (w3.heap[w.heap.size]? = _) := (r3.block _ (Nat.lt_succ_self _)).trans HH.out
          clear r1 r2 r3 hown3 hgr hat
          go_wp2
          go_roundw
          case rel => exact ⟨r, ps ++ [(t, .slice pa t.ps.length pc)], m', rfl, HR2, by omega, by rw [List.length_append, List.length_singleton]; omega, R1, R2, R3, R4⟩
          case measure => simp [strLen]; omega
end Go.Proofs.YtlghcldiboecoaaGreatDoor

/- parseType, Parse. -/
set_option linter.unusedVariables false
namespace Go.Proofs.YtlghcldiboecoaaGreatDoor
open Go.RowKit

/-- No text, or too many brackets. -/
theorem pt_stop (w : World) (s : ByteArray) (d : Int) (h : s.size = 0 ∨ 8 < d) :
    Calls Tryz.prog 176 #[.string s, .int .i64 d] w fun e w' => noType e ∧ Below w.heap.size w w' := by
  by_cases h0 : s.size = 0
  · have hnil : s.toList = [] := (toList_nil s).2 h0
    go_enter Tryz.func176, Tryz.ntmps176
    go_wp2
    exact bodyPost_ret (v := .tuple #[tyv 0 0 0 0 0 false 0 (.slice none 0 0), .string ⟨#[]⟩, .bool false]) (by simp [results, Tryz.results176, go_sem]) rfl ⟨⟨_, _, _, _, _, _, _, _, _, _, _, rfl⟩, below1 _ _⟩
  · have hne : ¬ s.toList = [] := fun h => h0 ((toList_nil s).1 h)
    have h8 : 8 < d := by omega
    have hnB : (s.toList == []) = false := by simpa using hne
    go_enter Tryz.func176, Tryz.ntmps176
    go_wp2
    exact bodyPost_ret (v := .tuple #[tyv 0 0 0 0 0 false 0 (.slice none 0 0), .string ⟨#[]⟩, .bool false]) (by simp [results, Tryz.results176, go_sem]) rfl ⟨⟨_, _, _, _, _, _, _, _, _, _, _, rfl⟩, below1 _ _⟩

theorem pt_zero : PtSaid 0 := by
  intro w s d hT hs hd
  exact pt_stop w s d (Or.inr (by omega))

/-- The cells of no type. -/
abbrev zT : Array Value := #[.int .u8 0, .int .i64 0, .int .i64 0, .int .i64 0, .int .i64 0, .bool false, .int .u8 0, .slice none 0 0]

set_option maxRecDepth 8000 in
set_option maxHeartbeats 1000000 in
theorem pt_nofind (w : World) (s : ByteArray) (d : Int) (hT : Table w) (hpn : 0 < s.size) (hd : d ≤ 8) (h : Orch.find s[0] = none) :
    Calls Tryz.prog 176 #[.string s, .int .i64 d] w fun e w' => noType e ∧ Below w.heap.size w w' := by
  have hne : ¬ s.toList = [] := fun h => by have := (toList_nil s).1 h; omega
  have hnB : (s.toList == []) = false := by simpa using hne
  have hpz : (0 : Int) < (s.size : Int) := by omega
  have HT1 : Hid (Table (w.alloc (.cells #[.int .u8 0, .int .i64 0, .int .i64 0, .int .i64 0, .int .i64 0, .bool false, .int .u8 0, .slice none 0 0] 227))) := hT.below (below1 _ _) hT.pos
  have HF := findLetter_any (w.alloc (.cells #[.int .u8 0, .int .i64 0, .int .i64 0, .int .i64 0, .int .i64 0, .bool false, .int .u8 0, .slice none 0 0] 227)) HT1.out s[0]
  unfold findEnd at HF
  rw [h] at HF
  obtain ⟨x0, hx0⟩ : ∃ x0, s[0] = x0 := ⟨_, rfl⟩
  rw [hx0] at HF
  have HFF := hide HF
  clear HF h hT
  have N0 := hide (heap_alloc_new w (.cells #[.int .u8 0, .int .i64 0, .int .i64 0, .int .i64 0, .int .i64 0, .bool false, .int .u8 0, .slice none 0 0] 227))
  go_enter Tryz.func176, Tryz.ntmps176
  go_wp2_with (first
    | (refine wpList_store_row rfl 227 _ _ rfl w.heap.size #[.int .u8 0, .int .i64 0, .int .i64 0, .int .i64 0, .int .i64 0, .bool false, .int .u8 0, .slice none 0 0] rfl rfl 227 _ HH2.out Tryz.size227 rfl (one_ty _ _ _ _ _ _ _ _ _ _) ?_)
    | (go_at_call 241; refine HFF.out.mono ?_; rintro e w1 ⟨rfl, hb1⟩; have HB1 : Hid (Below w.heap.size w w1) := (below1 _ _).trans (hb1.mono (by simp)); have HH : Hid (w1.heap[w.heap.size]? = some (.cells #[.int .u8 0, .int .i64 0, .int .i64 0, .int .i64 0, .int .i64 0, .bool false, .int .u8 0, .slice none 0 0] 227)) := (hb1.block _ (ltOf N0.out)).trans N0.out; have HH2 : Hid ((w1.alloc (.cells #[.int .u8 0, .int .i64 0, .int .i64 0, .int .i64 0, .int .i64 0, .bool false, .int .u8 0] 224)).heap[w.heap.size]? = some (.cells #[.int .u8 0, .int .i64 0, .int .i64 0, .int .i64 0, .int .i64 0, .bool false, .int .u8 0, .slice none 0 0] 227)) := (Below.heap_alloc _ _ _ (ltOf HH.out)).trans HH.out; clear hb1))
  have HQ := setRow_heap _ _ _ #[.int .u8 0, .int .i64 0, .int .i64 0, .int .i64 0, .int .i64 0, .bool false, .int .u8 0, .slice none 0 0] _ _ HH2.out
  have c0 := cellOf (j := 0) HQ rfl
  have c1 := cellOf (j := 1) HQ rfl
  have c2 := cellOf (j := 2) HQ rfl
  have c3 := cellOf (j := 3) HQ rfl
  have c4 := cellOf (j := 4) HQ rfl
  have c5 := cellOf (j := 5) HQ rfl
  have c6 := cellOf (j := 6) HQ rfl
  have c7 := cellOf (j := 7) HQ rfl
  exact bodyPost_ret (v := .tuple #[tyv 0 0 0 0 0 false 0 (.slice none 0 0), .string ⟨#[]⟩, .bool false]) (by simp [results, Tryz.results176, go_sem, c0, c1, c2, c3, c4, c5, c6, c7]) rfl ⟨⟨_, _, _, _, _, _, _, _, _, _, _, rfl⟩, below_setRow (HB1.out.alloc HB1.out.size _) (Nat.le_refl _) _⟩
end Go.Proofs.YtlghcldiboecoaaGreatDoor

/- parseType at a letter without brackets. -/
set_option linter.unusedVariables false
namespace Go.Proofs.YtlghcldiboecoaaGreatDoor
open Go.RowKit

theorem bp_gen {P : Program} {fn : Func} {post : Ending → World → Prop} {ex : Exit} {a : Act} {w : World} (F : World → Prop) (hF : F w) (h : ∀ W, F W → bodyPost P fn post ex a W) : bodyPost P fn post ex a w := h w hF

theorem set8_row (W : World) (g : Nat) (t : TypeId) (z : Array Value) (hz : z.size = 8) (hg : W.heap[g]? = some (.cells z t (0, 0))) (u0 u1 u2 u3 u4 u5 u6 u7 : Value) :
    ((((((((W.setCell ⟨g, 0, none⟩ u0).setCell ⟨g, 1, none⟩ u1).setCell ⟨g, 2, none⟩ u2).setCell ⟨g, 3, none⟩ u3).setCell ⟨g, 4, none⟩ u4).setCell ⟨g, 5, none⟩ u5).setCell ⟨g, 6, none⟩ u6).setCell ⟨g, 7, none⟩ u7).heap[g]? = some (.cells #[u0, u1, u2, u3, u4, u5, u6, u7] t (0, 0)) := by
  have h0 := heap_setCell_same W g 0 _ t u0 hg
  have h1 := heap_setCell_same _ g 1 _ t u1 h0
  have h2 := heap_setCell_same _ g 2 _ t u2 h1
  have h3 := heap_setCell_same _ g 3 _ t u3 h2
  have h4 := heap_setCell_same _ g 4 _ t u4 h3
  have h5 := heap_setCell_same _ g 5 _ t u5 h4
  have h6 := heap_setCell_same _ g 6 _ t u6 h5
  have h7 := heap_setCell_same _ g 7 _ t u7 h6
  refine h7.trans ?_
  clear h7 h6 h5 h4 h3 h2 h1 h0 hg
  match z, hz with
  | ⟨[z0, z1, z2, z3, z4, z5, z6, z7]⟩, _ => simp

theorem row_drew {X w0 : World} {g B : Nat} {o : Obj} (h : X.heap[g]? = some o ∧ Below B w0 X) : X.drew.heap[g]? = some o ∧ Below B w0 X.drew := ⟨h.1, h.2.drew⟩

theorem set8_below {B : Nat} {w0 : World} (W : World) (g : Nat) (hg : B ≤ g) (h : Below B w0 W) (u0 u1 u2 u3 u4 u5 u6 u7 : Value) :
    Below B w0 ((((((((W.setCell ⟨g, 0, none⟩ u0).setCell ⟨g, 1, none⟩ u1).setCell ⟨g, 2, none⟩ u2).setCell ⟨g, 3, none⟩ u3).setCell ⟨g, 4, none⟩ u4).setCell ⟨g, 5, none⟩ u5).setCell ⟨g, 6, none⟩ u6).setCell ⟨g, 7, none⟩ u7) :=
  (((((((h.setCell (p := ⟨g, 0, none⟩) hg u0).setCell (p := ⟨g, 1, none⟩) hg u1).setCell (p := ⟨g, 2, none⟩) hg u2).setCell (p := ⟨g, 3, none⟩) hg u3).setCell (p := ⟨g, 4, none⟩) hg u4).setCell (p := ⟨g, 5, none⟩) hg u5).setCell (p := ⟨g, 6, none⟩) hg u6).setCell (p := ⟨g, 7, none⟩) hg u7

theorem below_drop {B : Nat} {w0 w W : World} (h : Below B w0 w) (hh : ∀ k, k < B → W.heap[k]? = w.heap[k]?) (hs : W.heap.size = w.heap.size) (ho : W.os = w.os) (ht : W.tape = w.tape) (hp : W.output = w.output) : Below B w0 W :=
  ⟨ho.trans h.os, ht.trans h.tape, hp.trans h.output, by rw [hs]; exact h.size, fun k hk => (hh k hk).trans (h.block k hk)⟩

set_option maxRecDepth 8000 in
set_option maxHeartbeats 1000000 in
theorem pt_leaf (w : World) (s : ByteArray) (d : Int) (hT : Table w) (hpn : 0 < s.size) (hd : d ≤ 8) (l : Orch.Lt) (h : Orch.find s[0] = some l) (hl : l.fin = 0) :
    Calls Tryz.prog 176 #[.string s, .int .i64 d] w fun e w' => e = .returned (.tuple #[tval l (.slice none 0 0), .string (s.extract 1 s.size), .bool true]) ∧ Below w.heap.size w w' := by
  have hne : ¬ s.toList = [] := fun h => by have := (toList_nil s).1 h; omega
  have hnB : (s.toList == []) = false := by simpa using hne
  have hpz : (0 : Int) < (s.size : Int) := by omega
  have HT1 : Hid (Table (w.alloc (.cells #[.int .u8 0, .int .i64 0, .int .i64 0, .int .i64 0, .int .i64 0, .bool false, .int .u8 0, .slice none 0 0] 227))) := hT.below (below1 _ _) hT.pos
  have HF := findLetter_any (w.alloc (.cells #[.int .u8 0, .int .i64 0, .int .i64 0, .int .i64 0, .int .i64 0, .bool false, .int .u8 0, .slice none 0 0] 227)) HT1.out s[0]
  unfold findEnd at HF
  rw [h] at HF
  obtain ⟨x0, hx0⟩ : ∃ x0, s[0] = x0 := ⟨_, rfl⟩
  rw [hx0] at HF
  have hfn : (l.fin.toNat : Int) = 0 := by rw [hl]; rfl
  simp only [lval, ltv, hfn] at HF
  simp only [tval, tyv, hfn]
  have HFF := hide HF
  clear HF h hT hl hfn
  generalize l.sign.toNat = sg at *
  generalize l.shape = sh at *
  generalize l.size = sz at *
  generalize l.least = lo at *
  generalize l.most = hi at *
  generalize l.text = tx at *
  have N0 := hide (heap_alloc_new w (.cells #[.int .u8 0, .int .i64 0, .int .i64 0, .int .i64 0, .int .i64 0, .bool false, .int .u8 0, .slice none 0 0] 227))
  go_enter Tryz.func176, Tryz.ntmps176
  go_wp2_with (go_at_call 241; refine HFF.out.mono ?_; rintro e w1 ⟨rfl, hb1⟩; have HB1 : Hid (Below w.heap.size w w1) := (below1 _ _).trans (hb1.mono (by simp)); have HH : Hid (w1.heap[w.heap.size]? = some (.cells #[.int .u8 0, .int .i64 0, .int .i64 0, .int .i64 0, .int .i64 0, .bool false, .int .u8 0, .slice none 0 0] 227)) := (hb1.block _ (ltOf N0.out)).trans N0.out; clear hb1)
  have q0 : (w1.alloc (.cells #[.int .u8 sg, .int .i64 sh, .int .i64 sz, .int .i64 lo, .int .i64 hi, .bool tx, .int .u8 0] 224)).heap[w.heap.size]? = _ := (Below.heap_alloc _ _ _ (ltOf HH.out)).trans HH.out
  refine wp_gen (fun W => Below w.heap.size w W ∧ W.heap[w.heap.size]? = some (.cells #[.int .u8 0, .int .i64 0, .int .i64 0, .int .i64 0, .int .i64 0, .bool false, .int .u8 0, .slice none 0 0] 227) ∧ W.heap[w1.heap.size]? = some (.cells #[.int .u8 sg, .int .i64 sh, .int .i64 sz, .int .i64 lo, .int .i64 hi, .bool tx, .int .u8 0] 224))
    ⟨HB1.out.alloc HB1.out.size _, q0, heap_alloc_new _ _⟩ ?_
  have hGne : w.heap.size < w1.heap.size := ltOf HH.out
  clear q0 N0 HFF HB1 HH HT1
  generalize w1.heap.size = G at *
  rintro W ⟨hbW, m0, m1⟩
  have a0 := cellOf (j := 0) m0 rfl
  have a1 := cellOf (j := 1) m0 rfl
  have a2 := cellOf (j := 2) m0 rfl
  have a3 := cellOf (j := 3) m0 rfl
  have a4 := cellOf (j := 4) m0 rfl
  have a5 := cellOf (j := 5) m0 rfl
  have a6 := cellOf (j := 6) m0 rfl
  have a7 := cellOf (j := 7) m0 rfl
  have f0 := frozenOf (j := 0) m0
  have f1 := frozenOf (j := 1) m0
  have f2 := frozenOf (j := 2) m0
  have f3 := frozenOf (j := 3) m0
  have f4 := frozenOf (j := 4) m0
  have f5 := frozenOf (j := 5) m0
  have f6 := frozenOf (j := 6) m0
  have f7 := frozenOf (j := 7) m0
  have M0 := hide m0
  have b0 := cellOf (j := 0) m1 rfl
  have b1 := cellOf (j := 1) m1 rfl
  have b2 := cellOf (j := 2) m1 rfl
  have b3 := cellOf (j := 3) m1 rfl
  have b4 := cellOf (j := 4) m1 rfl
  have b5 := cellOf (j := 5) m1 rfl
  have b6 := cellOf (j := 6) m1 rfl
  have HW := hide hbW
  clear hbW m0 m1
  go_region
  all_goals go_wp2
  all_goals refine bp_gen (fun X => X.heap[w.heap.size]? = some (.cells #[.int .u8 sg, .int .i64 sh, .int .i64 sz, .int .i64 lo, .int .i64 hi, .bool tx, .int .u8 0, .slice none 0 0] 227) ∧ Below w.heap.size w X) (row_drew ⟨set8_row W _ _ _ rfl M0.out _ _ _ _ _ _ _ _, set8_below W _ (Nat.le_refl _) HW.out _ _ _ _ _ _ _ _⟩) ?_
  all_goals rintro X ⟨HQ, hbX⟩
  all_goals have c0 := cellOf (j := 0) HQ rfl
  all_goals have c1 := cellOf (j := 1) HQ rfl
  all_goals have c2 := cellOf (j := 2) HQ rfl
  all_goals have c3 := cellOf (j := 3) HQ rfl
  all_goals have c4 := cellOf (j := 4) HQ rfl
  all_goals have c5 := cellOf (j := 5) HQ rfl
  all_goals have c6 := cellOf (j := 6) HQ rfl
  all_goals have c7 := cellOf (j := 7) HQ rfl
  all_goals exact bodyPost_ret (v := .tuple #[tyv sg sh sz lo hi tx 0 (.slice none 0 0), .string (s.extract 1 s.size), .bool true]) (by simp [results, Tryz.results176, go_sem, c0, c1, c2, c3, c4, c5, c6, c7]) rfl ⟨rfl, hbX⟩
end Go.Proofs.YtlghcldiboecoaaGreatDoor

/- parseType at a bracket. -/
set_option linter.unusedVariables false
namespace Go.Proofs.YtlghcldiboecoaaGreatDoor
open Go.RowKit

set_option maxRecDepth 8000 in
set_option maxHeartbeats 1000000 in
/-- The walk, whatever parseParts gives. -/
theorem pt_node (w : World) (s : ByteArray) (d : Int) (hT : Table w) (hpn : 0 < s.size) (hd0 : 0 ≤ d) (hd : d ≤ 8) (l : Orch.Lt) (h : Orch.find s[0] = some l) (hl : l.fin ≠ 0)
    (pv : World → Option Addr → Nat → Nat → ByteArray → Bool → World → Prop)
    (HP : Hid (∀ w', Table w' → Calls Tryz.prog 242 #[.string (s.extract 1 s.size), lval l, .int .i64 (d + 1)] w' fun e w'' => (∃ a m c r ok, e = .returned (.tuple #[.slice a m c, .string r, .bool ok]) ∧ pv w' a m c r ok w'') ∧ Below w'.heap.size w' w'')) :
    Calls Tryz.prog 176 #[.string s, .int .i64 d] w fun e w' => (∃ wa wb a m c r ok, e = .returned (.tuple #[tval l (.slice a m c), .string r, .bool ok]) ∧ pv wa a m c r ok wb ∧ w.heap.size < wa.heap.size ∧ w'.heap.size = wb.heap.size ∧ ∀ b, w.heap.size < b → w'.heap[b]? = wb.heap[b]?) ∧ Below w.heap.size w w' := by
  have hne : ¬ s.toList = [] := fun h => by have := (toList_nil s).1 h; omega
  have hnB : (s.toList == []) = false := by simpa using hne
  have hpz : (0 : Int) < (s.size : Int) := by omega
  have HT1 : Hid (Table (w.alloc (.cells #[.int .u8 0, .int .i64 0, .int .i64 0, .int .i64 0, .int .i64 0, .bool false, .int .u8 0, .slice none 0 0] 227))) := hT.below (below1 _ _) hT.pos
  have HTT : Hid (∀ w', Below w.heap.size w w' → Table w') := fun w' hb => hT.below hb hT.pos
  have HF := findLetter_any (w.alloc (.cells #[.int .u8 0, .int .i64 0, .int .i64 0, .int .i64 0, .int .i64 0, .bool false, .int .u8 0, .slice none 0 0] 227)) HT1.out s[0]
  unfold findEnd at HF
  rw [h] at HF
  obtain ⟨x0, hx0⟩ : ∃ x0, s[0] = x0 := ⟨_, rfl⟩
  rw [hx0] at HF
  have hfn : ((l.fin.toNat : Int) == 0) = false := by
    rw [beq_eq_false_iff_ne]
    intro h
    exact hl (UInt8.toNat_inj.1 (by simp; omega))
  have HFF := hide HF
  clear HF h hT hl
  simp only [lval, ltv, tval, tyv] at HFF HP ⊢
  generalize l.sign.toNat = sg at *
  generalize l.shape = sh at *
  generalize l.size = sz at *
  generalize l.least = lo at *
  generalize l.most = hi at *
  generalize l.text = tx at *
  generalize l.fin.toNat = fn at *
  have N0 := hide (heap_alloc_new w (.cells #[.int .u8 0, .int .i64 0, .int .i64 0, .int .i64 0, .int .i64 0, .bool false, .int .u8 0, .slice none 0 0] 227))
  go_enter Tryz.func176, Tryz.ntmps176
  go_wp2_with (go_at_call 241; refine HFF.out.mono ?_; rintro e w1 ⟨rfl, hb1⟩; have HB1 : Hid (Below w.heap.size w w1) := (below1 _ _).trans (hb1.mono (by simp)); have HH : Hid (w1.heap[w.heap.size]? = some (.cells #[.int .u8 0, .int .i64 0, .int .i64 0, .int .i64 0, .int .i64 0, .bool false, .int .u8 0, .slice none 0 0] 227)) := (hb1.block _ (ltOf N0.out)).trans N0.out; clear hb1)
  have q0 : (w1.alloc (.cells #[.int .u8 sg, .int .i64 sh, .int .i64 sz, .int .i64 lo, .int .i64 hi, .bool tx, .int .u8 fn] 224)).heap[w.heap.size]? = _ := (Below.heap_alloc _ _ _ (ltOf HH.out)).trans HH.out
  refine wp_gen (fun W => Below w.heap.size w W ∧ W.heap[w.heap.size]? = some (.cells #[.int .u8 0, .int .i64 0, .int .i64 0, .int .i64 0, .int .i64 0, .bool false, .int .u8 0, .slice none 0 0] 227) ∧ W.heap[w1.heap.size]? = some (.cells #[.int .u8 sg, .int .i64 sh, .int .i64 sz, .int .i64 lo, .int .i64 hi, .bool tx, .int .u8 fn] 224))
    ⟨HB1.out.alloc HB1.out.size _, q0, heap_alloc_new _ _⟩ ?_
  have hGne : w.heap.size < w1.heap.size := ltOf HH.out
  clear q0 N0 HFF HB1 HH HT1
  generalize w1.heap.size = G at *
  rintro W ⟨hbW, m0, m1⟩
  have b0 := cellOf (j := 0) m1 rfl
  have b1 := cellOf (j := 1) m1 rfl
  have b2 := cellOf (j := 2) m1 rfl
  have b3 := cellOf (j := 3) m1 rfl
  have b4 := cellOf (j := 4) m1 rfl
  have b5 := cellOf (j := 5) m1 rfl
  have b6 := cellOf (j := 6) m1 rfl
  have HW := hide hbW
  have M0 := hide m0
  have M1 := hide m1
  clear hbW m0 m1
  go_region_with (
    go_at_call 242
    refine (HP.out _ (HTT.out _ (by first | exact HW.out | exact HW.out.drew | exact HW.out.drew.drew))).mono ?_
    rintro e w2 ⟨⟨ra, rm, rc, rr, ok, rfl, hpv⟩, hb2⟩
    have HPV := hide hpv
    have HB2 : Hid (Below w.heap.size w w2) := Below.trans (by first | exact HW.out | exact HW.out.drew | exact HW.out.drew.drew) (hb2.mono (by first | exact HW.out.size))
    have K0 : Hid (w2.heap[w.heap.size]? = some (.cells #[.int .u8 0, .int .i64 0, .int .i64 0, .int .i64 0, .int .i64 0, .bool false, .int .u8 0, .slice none 0 0] 227)) := (hb2.block _ (ltOf M0.out)).trans M0.out
    have K1 : Hid (w2.heap[G]? = some (.cells #[.int .u8 sg, .int .i64 sh, .int .i64 sz, .int .i64 lo, .int .i64 hi, .bool tx, .int .u8 fn] 224)) := (hb2.block _ (ltOf M1.out)).trans M1.out
    clear hb2 hpv)
  all_goals have e0 := cellOf (j := 0) K1.out rfl
  all_goals have e1 := cellOf (j := 1) K1.out rfl
  all_goals have e2 := cellOf (j := 2) K1.out rfl
  all_goals have e3 := cellOf (j := 3) K1.out rfl
  all_goals have e4 := cellOf (j := 4) K1.out rfl
  all_goals have e5 := cellOf (j := 5) K1.out rfl
  all_goals have e6 := cellOf (j := 6) K1.out rfl
  all_goals go_wp2_with (refine wpList_store_row rfl 227 _ _ rfl w.heap.size #[.int .u8 sg, .int .i64 sh, .int .i64 sz, .int .i64 lo, .int .i64 hi, .bool tx, .int .u8 fn, .slice ra rm rc] rfl rfl 227 _ K0.out Tryz.size227 rfl (one_ty _ _ _ _ _ _ _ _ _ _) ?_)
  all_goals have HQ := setRow_heap _ _ _ #[.int .u8 sg, .int .i64 sh, .int .i64 sz, .int .i64 lo, .int .i64 hi, .bool tx, .int .u8 fn, .slice ra rm rc] _ _ K0.out
  all_goals have c0 := cellOf (j := 0) HQ rfl
  all_goals have c1 := cellOf (j := 1) HQ rfl
  all_goals have c2 := cellOf (j := 2) HQ rfl
  all_goals have c3 := cellOf (j := 3) HQ rfl
  all_goals have c4 := cellOf (j := 4) HQ rfl
  all_goals have c5 := cellOf (j := 5) HQ rfl
  all_goals have c6 := cellOf (j := 6) HQ rfl
  all_goals have c7 := cellOf (j := 7) HQ rfl
  all_goals refine bodyPost_ret (v := .tuple #[tyv sg sh sz lo hi tx fn (.slice ra rm rc), .string rr, .bool ok]) (by simp [results, Tryz.results176, go_sem, c0, c1, c2, c3, c4, c5, c6, c7]) rfl ⟨⟨_, w2, ra, rm, rc, rr, ok, rfl, HPV.out, by show w.heap.size < W.heap.size; exact ltOf M0.out, by simp, fun b hb => setRow_other _ _ _ _ (by omega)⟩, below_setRow HB2.out (Nat.le_refl _) _⟩
end Go.Proofs.YtlghcldiboecoaaGreatDoor

/- parseType and Parse, whole. -/
set_option linter.unusedVariables false
namespace Go.Proofs.YtlghcldiboecoaaGreatDoor
open Go.RowKit

theorem pt_succ (k : Nat) (hk : k + 1 ≤ 9) (hp : PpSaid k) : PtSaid (k + 1) := by
  intro w s d hT hs hd
  by_cases h0 : s.size = 0
  · have e : Orch.ptype (k + 1) s.data.toList = none := by
      rw [← Lib.toList_data, (toList_nil s).2 h0]; rfl
    rw [e]
    exact pt_stop w s d (Or.inl h0)
  · have hpn : 0 < s.size := by omega
    have hc := str_cons s hpn
    have hxl : (s.extract 1 s.size).data.toList.length = (s.extract 1 s.size).size := (Lib.size_eq _).symm
    have hxs : (s.extract 1 s.size).size ≤ 64 := by
      rw [Lib.size_eq, Lib.extract_data, List.length_take, List.length_drop]; omega
    rw [hc, Orch.ptype]
    cases hf : Orch.find s[0] with
    | none => exact pt_nofind w s d hT hpn (by omega) hf
    | some l =>
      by_cases hl : l.fin = 0
      · simp only [if_pos hl]
        refine (pt_leaf w s d hT hpn (by omega) l hf hl).mono ?_
        rintro e w' ⟨rfl, hb⟩
        exact ⟨⟨_, _, rfl, rfl, .nil _ _⟩, hb⟩
      · simp only [if_neg hl, hxl]
        obtain ⟨TOT, hTOT⟩ : ∃ TOT, Orch.parts (Orch.ptype k) l ((s.extract 1 s.size).size + 1) (s.extract 1 s.size).data.toList [] = TOT := ⟨_, rfl⟩
        rw [hTOT]
        by_cases hd0 : 0 ≤ d
        · refine (pt_node w s d hT hpn hd0 (by omega) l hf hl (fun w' a m c r ok w'' => ppRes w' w'' (.returned (.tuple #[.slice a m c, .string r, .bool ok])) TOT) (fun w' ht => ?_)).mono ?_
          · refine (hp w' (s.extract 1 s.size) l (d + 1) ht hxs (by omega)).mono ?_
            rintro e w'' ⟨hres, hb⟩
            rw [hTOT] at hres
            refine ⟨?_, hb⟩
            cases TOT with
            | none =>
              have he : e = .returned (.tuple #[.slice none 0 0, .string ⟨#[]⟩, .bool false]) := hres
              exact ⟨none, 0, 0, ⟨#[]⟩, false, he, by rw [← he]; exact hres⟩
            | some pr =>
              obtain ⟨ps, rest⟩ := pr
              obtain ⟨v, r, he, hr, hts⟩ := hres
              obtain ⟨a, c, rfl⟩ := hts.shape
              exact ⟨a, ps.length, c, r, true, he, ⟨_, r, rfl, hr, hts⟩⟩
          · rintro e w' ⟨⟨wa, wb, a, m, c, r, ok, rfl, hpv, hlt, hsz, hblk⟩, hb⟩
            refine ⟨?_, hb⟩
            cases TOT with
            | none =>
              have he : Ending.returned (.tuple #[.slice a m c, .string r, .bool ok]) = .returned (.tuple #[.slice none 0 0, .string ⟨#[]⟩, .bool false]) := hpv
              simp only [Ending.returned.injEq, Value.tuple.injEq, Array.mk.injEq, List.cons.injEq, Value.bool.injEq] at he
              obtain ⟨_, _, rfl, _⟩ := he
              exact ⟨_, _, _, _, _, _, _, _, _, _, _, rfl⟩
            | some pr =>
              obtain ⟨ps, rest⟩ := pr
              obtain ⟨v, r', he, hr, hts⟩ := hpv
              simp only [Ending.returned.injEq, Value.tuple.injEq, Array.mk.injEq, List.cons.injEq, Value.bool.injEq, Value.string.injEq] at he
              obtain ⟨rfl, rfl, rfl, _⟩ := he
              refine ⟨_, _, rfl, hr, hts.congr (fun b hb' => ⟨by omega, by rw [hsz]; exact hb'.2⟩) (fun b hb' => hblk b (by omega))⟩
        · omega

theorem pt_all : ∀ k, k ≤ 9 → PtSaid k := by
  intro k
  induction k with
  | zero => intro _; exact pt_zero
  | succ k ih => intro h; exact pt_succ k h (pp_of_pt k (by omega) (ih (by omega)))

/-- What Parse leaves. -/
def parseRes (w w' : World) (e : Ending) : Option Orch.Ty → Prop
  | none => ∃ (a b c d f : Int) (x : Bool) (g : Int) (p : Option Addr) (m n : Nat), e = .returned (.tuple #[tyv a b c d f x g (.slice p m n), .bool false])
  | some t => ∃ psv, e = .returned (.tuple #[tval t.l psv, .bool true]) ∧ TsAt w' (fun b => w.heap.size ≤ b ∧ b < w'.heap.size) t.ps psv

set_option maxRecDepth 8000 in
set_option maxHeartbeats 1000000 in
theorem parse_long (w : World) (s : ByteArray) (h : 64 < s.size) : Calls Tryz.prog 129 #[.string s] w fun e w' => parseRes w w' e none ∧ Below w.heap.size w w' := by
  have hz : (64 : Int) < (s.size : Int) := by omega
  go_enter Tryz.func129, Tryz.ntmps129
  go_wp2
  exact bodyPost_ret (v := .tuple #[tyv 0 0 0 0 0 false 0 (.slice none 0 0), .bool false]) (by simp [results, Tryz.results129, go_sem]) rfl ⟨⟨_, _, _, _, _, _, _, _, _, _, rfl⟩, below1 _ _⟩

set_option maxRecDepth 8000 in
set_option maxHeartbeats 1000000 in
theorem parse_false (w : World) (s : ByteArray) (h : s.size ≤ 64)
    (HC : Hid (Calls Tryz.prog 176 #[.string s, .int .i64 0] (w.alloc (.cells #[.int .u8 0, .int .i64 0, .int .i64 0, .int .i64 0, .int .i64 0, .bool false, .int .u8 0, .slice none 0 0] 227)) fun e w' => noType e ∧ Below (w.alloc (.cells #[.int .u8 0, .int .i64 0, .int .i64 0, .int .i64 0, .int .i64 0, .bool false, .int .u8 0, .slice none 0 0] 227)).heap.size (w.alloc (.cells #[.int .u8 0, .int .i64 0, .int .i64 0, .int .i64 0, .int .i64 0, .bool false, .int .u8 0, .slice none 0 0] 227)) w')) :
    Calls Tryz.prog 129 #[.string s] w fun e w' => parseRes w w' e none ∧ Below w.heap.size w w' := by
  have hz : ¬ (64 : Int) < (s.size : Int) := by omega
  have N0 := hide (heap_alloc_new w (.cells #[.int .u8 0, .int .i64 0, .int .i64 0, .int .i64 0, .int .i64 0, .bool false, .int .u8 0, .slice none 0 0] 227))
  go_enter Tryz.func129, Tryz.ntmps129
  go_wp2_with (first
    | (refine wpList_store_row rfl 227 _ _ rfl w.heap.size #[.int .u8 0, .int .i64 0, .int .i64 0, .int .i64 0, .int .i64 0, .bool false, .int .u8 0, .slice none 0 0] rfl rfl 227 _ HH2.out Tryz.size227 rfl (one_ty _ _ _ _ _ _ _ _ _ _) ?_)
    | (go_at_call 176; refine HC.out.mono ?_; rintro e w1 ⟨⟨a, b, c, d, f, x, g, p, m, n, r, rfl⟩, hb1⟩; have HB1 : Hid (Below w.heap.size w w1) := (below1 _ _).trans (hb1.mono (by simp)); have HH : Hid (w1.heap[w.heap.size]? = some (.cells #[.int .u8 0, .int .i64 0, .int .i64 0, .int .i64 0, .int .i64 0, .bool false, .int .u8 0, .slice none 0 0] 227)) := (hb1.block _ (ltOf N0.out)).trans N0.out; have HH2 : Hid ((w1.alloc (.cells #[.int .u8 a, .int .i64 b, .int .i64 c, .int .i64 d, .int .i64 f, .bool x, .int .u8 g, .slice p m n] 227)).heap[w.heap.size]? = some (.cells #[.int .u8 0, .int .i64 0, .int .i64 0, .int .i64 0, .int .i64 0, .bool false, .int .u8 0, .slice none 0 0] 227)) := (Below.heap_alloc _ _ _ (ltOf HH.out)).trans HH.out; clear hb1))
  refine bp_gen (fun X => X.heap[w.heap.size]? = some (.cells #[.int .u8 0, .int .i64 0, .int .i64 0, .int .i64 0, .int .i64 0, .bool false, .int .u8 0, .slice none 0 0] 227) ∧ Below w.heap.size w X) ⟨setRow_heap _ _ _ _ _ _ HH2.out, below_setRow (HB1.out.alloc HB1.out.size _) (Nat.le_refl _) _⟩ ?_
  rintro X ⟨HQ, hbX⟩
  have c0 := cellOf (j := 0) HQ rfl
  have c1 := cellOf (j := 1) HQ rfl
  have c2 := cellOf (j := 2) HQ rfl
  have c3 := cellOf (j := 3) HQ rfl
  have c4 := cellOf (j := 4) HQ rfl
  have c5 := cellOf (j := 5) HQ rfl
  have c6 := cellOf (j := 6) HQ rfl
  have c7 := cellOf (j := 7) HQ rfl
  exact bodyPost_ret (v := .tuple #[tyv 0 0 0 0 0 false 0 (.slice none 0 0), .bool false]) (by simp [results, Tryz.results129, go_sem, c0, c1, c2, c3, c4, c5, c6, c7]) rfl ⟨⟨_, _, _, _, _, _, _, _, _, _, rfl⟩, hbX⟩

set_option maxRecDepth 8000 in
set_option maxHeartbeats 1000000 in
theorem parse_rest (w : World) (s : ByteArray) (h : s.size ≤ 64)
    (HC : Hid (Calls Tryz.prog 176 #[.string s, .int .i64 0] (w.alloc (.cells #[.int .u8 0, .int .i64 0, .int .i64 0, .int .i64 0, .int .i64 0, .bool false, .int .u8 0, .slice none 0 0] 227)) fun e w' => (∃ (a b c d f : Int) (x : Bool) (g : Int) (p : Option Addr) (m n : Nat) (r : ByteArray), e = .returned (.tuple #[tyv a b c d f x g (.slice p m n), .string r, .bool true]) ∧ r.size ≠ 0) ∧ Below (w.alloc (.cells #[.int .u8 0, .int .i64 0, .int .i64 0, .int .i64 0, .int .i64 0, .bool false, .int .u8 0, .slice none 0 0] 227)).heap.size (w.alloc (.cells #[.int .u8 0, .int .i64 0, .int .i64 0, .int .i64 0, .int .i64 0, .bool false, .int .u8 0, .slice none 0 0] 227)) w')) :
    Calls Tryz.prog 129 #[.string s] w fun e w' => parseRes w w' e none ∧ Below w.heap.size w w' := by
  have hz : ¬ (64 : Int) < (s.size : Int) := by omega
  have N0 := hide (heap_alloc_new w (.cells #[.int .u8 0, .int .i64 0, .int .i64 0, .int .i64 0, .int .i64 0, .bool false, .int .u8 0, .slice none 0 0] 227))
  go_enter Tryz.func129, Tryz.ntmps129
  go_wp2_with (first
    | (refine wpList_store_row rfl 227 _ _ rfl w.heap.size #[.int .u8 0, .int .i64 0, .int .i64 0, .int .i64 0, .int .i64 0, .bool false, .int .u8 0, .slice none 0 0] rfl rfl 227 _ HH2.out Tryz.size227 rfl (one_ty _ _ _ _ _ _ _ _ _ _) ?_)
    | (go_at_call 176; refine HC.out.mono ?_; rintro e w1 ⟨⟨a, b, c, d, f, x, g, p, m, n, r, rfl, hr⟩, hb1⟩; have HB1 : Hid (Below w.heap.size w w1) := (below1 _ _).trans (hb1.mono (by simp)); have HH : Hid (w1.heap[w.heap.size]? = some (.cells #[.int .u8 0, .int .i64 0, .int .i64 0, .int .i64 0, .int .i64 0, .bool false, .int .u8 0, .slice none 0 0] 227)) := (hb1.block _ (ltOf N0.out)).trans N0.out; have HH2 : Hid ((w1.alloc (.cells #[.int .u8 a, .int .i64 b, .int .i64 c, .int .i64 d, .int .i64 f, .bool x, .int .u8 g, .slice p m n] 227)).heap[w.heap.size]? = some (.cells #[.int .u8 0, .int .i64 0, .int .i64 0, .int .i64 0, .int .i64 0, .bool false, .int .u8 0, .slice none 0 0] 227)) := (Below.heap_alloc _ _ _ (ltOf HH.out)).trans HH.out; have hne : ¬ r.toList = [] := fun h => hr ((toList_nil r).1 h); have hnB : (r.toList == []) = false := (by simpa using hne); clear hb1 hr))
  refine bp_gen (fun X => X.heap[w.heap.size]? = some (.cells #[.int .u8 0, .int .i64 0, .int .i64 0, .int .i64 0, .int .i64 0, .bool false, .int .u8 0, .slice none 0 0] 227) ∧ Below w.heap.size w X) ⟨setRow_heap _ _ _ _ _ _ HH2.out, below_setRow (HB1.out.alloc HB1.out.size _) (Nat.le_refl _) _⟩ ?_
  rintro X ⟨HQ, hbX⟩
  have c0 := cellOf (j := 0) HQ rfl
  have c1 := cellOf (j := 1) HQ rfl
  have c2 := cellOf (j := 2) HQ rfl
  have c3 := cellOf (j := 3) HQ rfl
  have c4 := cellOf (j := 4) HQ rfl
  have c5 := cellOf (j := 5) HQ rfl
  have c6 := cellOf (j := 6) HQ rfl
  have c7 := cellOf (j := 7) HQ rfl
  exact bodyPost_ret (v := .tuple #[tyv 0 0 0 0 0 false 0 (.slice none 0 0), .bool false]) (by simp [results, Tryz.results129, go_sem, c0, c1, c2, c3, c4, c5, c6, c7]) rfl ⟨⟨_, _, _, _, _, _, _, _, _, _, rfl⟩, hbX⟩

set_option maxRecDepth 8000 in
set_option maxHeartbeats 1000000 in
theorem parse_ok' (w : World) (s : ByteArray) (h : s.size ≤ 64) (a b c d f : Int) (x : Bool) (g : Int) (pv : Option Addr → Nat → Nat → World → Prop)
    (HC : Hid (Calls Tryz.prog 176 #[.string s, .int .i64 0] (w.alloc (.cells #[.int .u8 0, .int .i64 0, .int .i64 0, .int .i64 0, .int .i64 0, .bool false, .int .u8 0, .slice none 0 0] 227)) fun e w' => (∃ (p : Option Addr) (m n : Nat) (r : ByteArray), e = .returned (.tuple #[tyv a b c d f x g (.slice p m n), .string r, .bool true]) ∧ r.size = 0 ∧ pv p m n w') ∧ Below (w.alloc (.cells #[.int .u8 0, .int .i64 0, .int .i64 0, .int .i64 0, .int .i64 0, .bool false, .int .u8 0, .slice none 0 0] 227)).heap.size (w.alloc (.cells #[.int .u8 0, .int .i64 0, .int .i64 0, .int .i64 0, .int .i64 0, .bool false, .int .u8 0, .slice none 0 0] 227)) w')) :
    Calls Tryz.prog 129 #[.string s] w fun e w' => (∃ p m n wb, e = .returned (.tuple #[tyv a b c d f x g (.slice p m n), .bool true]) ∧ pv p m n wb ∧ wb.heap.size ≤ w'.heap.size ∧ ∀ k, w.heap.size < k → k < wb.heap.size → w'.heap[k]? = wb.heap[k]?) ∧ Below w.heap.size w w' := by
  have hz : ¬ (64 : Int) < (s.size : Int) := by omega
  have N0 := hide (heap_alloc_new w (.cells #[.int .u8 0, .int .i64 0, .int .i64 0, .int .i64 0, .int .i64 0, .bool false, .int .u8 0, .slice none 0 0] 227))
  go_enter Tryz.func129, Tryz.ntmps129
  go_wp2_with (first
    | (refine wpList_store_row rfl 227 _ _ rfl w.heap.size #[.int .u8 a, .int .i64 b, .int .i64 c, .int .i64 d, .int .i64 f, .bool x, .int .u8 g, .slice p m n] rfl rfl 227 _ HH2.out Tryz.size227 rfl (one_ty _ _ _ _ _ _ _ _ _ _) ?_)
    | (go_at_call 176; refine HC.out.mono ?_; rintro e w1 ⟨⟨p, m, n, r, rfl, hr, hpv⟩, hb1⟩; have HB1 : Hid (Below w.heap.size w w1) := (below1 _ _).trans (hb1.mono (by simp)); have HH : Hid (w1.heap[w.heap.size]? = some (.cells #[.int .u8 0, .int .i64 0, .int .i64 0, .int .i64 0, .int .i64 0, .bool false, .int .u8 0, .slice none 0 0] 227)) := (hb1.block _ (ltOf N0.out)).trans N0.out; have HH2 : Hid ((w1.alloc (.cells #[.int .u8 a, .int .i64 b, .int .i64 c, .int .i64 d, .int .i64 f, .bool x, .int .u8 g, .slice p m n] 227)).heap[w.heap.size]? = some (.cells #[.int .u8 0, .int .i64 0, .int .i64 0, .int .i64 0, .int .i64 0, .bool false, .int .u8 0, .slice none 0 0] 227)) := (Below.heap_alloc _ _ _ (ltOf HH.out)).trans HH.out; have hnil : r.toList = [] := (toList_nil r).2 hr; have HPV := hide hpv; clear hb1 hr hpv))
  refine bp_gen (fun X => X.heap[w.heap.size]? = some (.cells #[.int .u8 a, .int .i64 b, .int .i64 c, .int .i64 d, .int .i64 f, .bool x, .int .u8 g, .slice p m n] 227) ∧ Below w.heap.size w X ∧ w1.heap.size ≤ X.heap.size ∧ ∀ k, w.heap.size < k → k < w1.heap.size → X.heap[k]? = w1.heap[k]?) ⟨setRow_heap _ _ _ _ _ _ HH2.out, below_setRow (HB1.out.alloc HB1.out.size _) (Nat.le_refl _) _, by simp, fun k h1 h2 => (setRow_other _ _ _ _ (by omega)).trans (Below.heap_alloc _ _ _ h2)⟩ ?_
  rintro X ⟨HQ, hbX, hsX, hkX⟩
  have HS := hide hsX
  have HKX := hide hkX
  clear hsX hkX
  have c0 := cellOf (j := 0) HQ rfl
  have c1 := cellOf (j := 1) HQ rfl
  have c2 := cellOf (j := 2) HQ rfl
  have c3 := cellOf (j := 3) HQ rfl
  have c4 := cellOf (j := 4) HQ rfl
  have c5 := cellOf (j := 5) HQ rfl
  have c6 := cellOf (j := 6) HQ rfl
  have c7 := cellOf (j := 7) HQ rfl
  exact bodyPost_ret (v := .tuple #[tyv a b c d f x g (.slice p m n), .bool true]) (by simp [results, Tryz.results129, go_sem, c0, c1, c2, c3, c4, c5, c6, c7]) rfl ⟨⟨p, m, n, w1, rfl, HPV.out, HS.out, HKX.out⟩, hbX⟩

/-- Parse: every text. -/
theorem parse_any (w : World) (s : ByteArray) (hT : Table w) : Calls Tryz.prog 129 #[.string s] w fun e w' => parseRes w w' e (Orch.parse s.data.toList) ∧ Below w.heap.size w w' := by
  unfold Orch.parse
  by_cases h : 64 < s.size
  · rw [if_pos (by rw [← Lib.size_eq]; exact h)]
    exact parse_long w s h
  · rw [if_neg (by rw [← Lib.size_eq]; exact h)]
    have hT1 : Table (w.alloc (.cells #[.int .u8 0, .int .i64 0, .int .i64 0, .int .i64 0, .int .i64 0, .bool false, .int .u8 0, .slice none 0 0] 227)) := hT.below (below1 _ _) hT.pos
    have h19 := pt_all 9 (by omega) (w.alloc (.cells #[.int .u8 0, .int .i64 0, .int .i64 0, .int .i64 0, .int .i64 0, .bool false, .int .u8 0, .slice none 0 0] 227)) s 0 hT1 (by omega) (by omega)
    cases hp : Orch.ptype 9 s.data.toList with
    | none =>
      rw [hp] at h19
      exact parse_false w s (by omega) h19
    | some tr =>
      obtain ⟨t, rest⟩ := tr
      rw [hp] at h19
      cases rest with
      | cons y ys =>
        refine parse_rest w s (by omega) (h19.mono ?_)
        rintro e w' ⟨⟨psv, r, rfl, hr, hts⟩, hb⟩
        obtain ⟨pa, pc, rfl⟩ := hts.shape
        exact ⟨⟨_, _, _, _, _, _, _, _, _, _, r, rfl, by rw [Lib.size_eq, hr]; simp⟩, hb⟩
      | nil =>
        refine (parse_ok' w s (by omega) t.l.sign.toNat t.l.shape t.l.size t.l.least t.l.most t.l.text t.l.fin.toNat (fun p m n w' => TsAt w' (fun b => w.heap.size + 1 ≤ b ∧ b < w'.heap.size) t.ps (.slice p m n)) (h19.mono ?_)).mono ?_
        · rintro e w' ⟨⟨psv, r, rfl, hr, hts⟩, hb⟩
          obtain ⟨pa, pc, rfl⟩ := hts.shape
          exact ⟨⟨pa, _, pc, r, rfl, by rw [Lib.size_eq, hr]; rfl, by simpa using hts⟩, hb⟩
        · rintro e w' ⟨⟨p, m, n, wb, rfl, hpv, hs1, hk1⟩, hb⟩
          exact ⟨⟨_, rfl, hpv.congr (fun b hb' => ⟨by omega, by omega⟩) (fun b hb' => hk1 b (by omega) hb'.2)⟩, hb⟩
end Go.Proofs.YtlghcldiboecoaaGreatDoor
