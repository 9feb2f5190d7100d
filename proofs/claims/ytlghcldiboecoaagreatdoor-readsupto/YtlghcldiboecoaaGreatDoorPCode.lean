/- The caller's step: Frame; what it does with the books behind it is a premise. -/
import Derived.Test.YtlghcldiboecoaaGreatDoorQ42
import Derived.Test.YtlghcldiboecoaaGreatDoorQ07
set_option linter.unusedVariables false
namespace Go.Proofs.YtlghcldiboecoaaGreatDoor
open Go.RowKit

/-- What Frame told of bs. -/
def FTold (bs : List UInt8) (v : Value) (code : Nat) (r : List UInt8) : Prop := (1000 < bs.length ∧ r = [] ∧ v = .slice none 0 0 ∧ code = 4) ∨ (bs.length ≤ 1000 ∧ r = Orch.be bs.length 4 ++ bs ∧ code = 0)

theorem FTold.same {bs : List UInt8} {v v' : Value} {c c' : Nat} {r r' : List UInt8} (h : FTold bs v c r) (h' : FTold bs v' c' r') : c' = c ∧ r' = r := by
  rcases h with ⟨h1, h2, _, h3⟩ | ⟨h1, h2, h3⟩ <;> rcases h' with ⟨k1, k2, _, k3⟩ | ⟨k1, k2, k3⟩
  · exact ⟨by omega, by rw [h2, k2]⟩
  · omega
  · omega
  · exact ⟨by omega, by rw [h2, k2]⟩

theorem frame_two (w : World) (g c n : Nat) (bs : List UInt8) (hn : n = bs.length) (hb : Bytes w g 0 bs) (hg : g < w.heap.size) (hm : bs.length ≤ 4000000) :
    Calls Tryz.prog 93 #[.slice (some ⟨g, 0, none⟩) n c] w fun e w' => (∃ v code r, e = .returned (.tuple #[v, .int .i64 (code : Nat)]) ∧ w'.ownsRow w.heap.size 5 1 v r.length (bcells r) ∧ FTold bs v code r) ∧ Below w.heap.size w w' := by
  subst hn
  by_cases hl : bs.length ≤ 1000
  · refine (frame_any w g c bs hb hg hl).mono ?_
    rintro e w' ⟨v, rfl, h1, h2⟩
    exact ⟨⟨v, 0, _, rfl, h1, .inr ⟨hl, rfl, rfl⟩⟩, h2⟩
  · refine (frame_long w g c bs (by omega) hm).mono ?_
    rintro e w' ⟨rfl, rfl⟩
    exact ⟨⟨_, 4, [], rfl, World.ownsRow_nil _ _ _ _, .inl ⟨by omega, rfl, rfl, rfl⟩⟩, Below.refl _ _⟩

theorem refFrame_two (w : World) (g c n : Nat) (bs : List UInt8) (hn : n = bs.length) (hb : Bytes w g 0 bs) (hg : g < w.heap.size) (hm : bs.length ≤ 4000000) :
    Calls Tryz.prog 94 #[.slice (some ⟨g, 0, none⟩) n c] w fun e w' => (∃ v code r, e = .returned (.tuple #[v, .int .i64 (code : Nat)]) ∧ w'.ownsRow w.heap.size 5 1 v r.length (bcells r) ∧ FTold bs v code r) ∧ Below w.heap.size w w' := by
  subst hn
  by_cases hl : bs.length ≤ 1000
  · refine (refFrame_any w g c bs hb hg hl).mono ?_
    rintro e w' ⟨v, rfl, h1, h2⟩
    exact ⟨⟨v, 0, _, rfl, h1, .inr ⟨hl, rfl, rfl⟩⟩, h2⟩
  · refine (refFrame_long w g c bs (by omega) hm).mono ?_
    rintro e w' ⟨rfl, rfl⟩
    exact ⟨⟨_, 4, [], rfl, World.ownsRow_nil _ _ _ _, .inl ⟨by omega, rfl, rfl, rfl⟩⟩, Below.refl _ _⟩

theorem below_bytesF (W : World) (s : ByteArray) : Below W.heap.size W (Lib.bytesWorld W 5 s) :=
  ⟨rfl, rfl, rfl, by rw [Lib.bytesWorld_size]; omega, fun k hk => Lib.bytesWorld_at_old W 5 s k hk⟩

theorem bytes_atF (W : World) (s : ByteArray) : Bytes (Lib.bytesWorld W 5 s) W.heap.size 0 s.data.toList := fun i hi => by
  rw [Nat.zero_add, Lib.bytesWorld_cell W 5 s i (by rw [Lib.size_eq]; exact hi), List.getD_eq_getElem?_getD, List.getElem?_eq_getElem hi]
  rfl

theorem lent_bsF {W : World} {g : Nat} (s : ByteArray) (h : W.heap[g]? = some (.cells (lb s 3).toArray 5)) : Bytes W g 0 s.data.toList := fun i hi => by
  rw [Nat.zero_add]
  refine cellOf h ?_
  rw [List.getElem?_toArray, lb, List.getElem?_append_left (by rw [bcells_len]; exact hi)]
  rw [bcells, List.getElem?_map, List.getElem?_eq_getElem hi]
  rfl

set_option maxRecDepth 8000 in
set_option maxHeartbeats 8000000 in
theorem codes_frame (w : World) (WB : Nat) (a b c : Int) (s t : ByteArray) (hs : s.size ≤ 4000000) (R : World → Prop)
    (HKS : Hid (∀ (W : World) (C : Nat) (oa : Option Addr) (oc : Nat) (r : List UInt8), r.length ≤ 1004 → Below w.heap.size w W → w.heap.size + 2 ≤ C → C ≤ W.heap.size → W.heap[w.heap.size]? = some (.cells #[.int .i64 3, .int .i64 a, .int .i64 b, .int .i64 c, .string s, .string t] 76) →
      W.heap[w.heap.size + 1]? = some (.cells (lb s 3).toArray 5) → W.ownsRow C 5 1 (.slice oa r.length oc) r.length (bcells r) →
      Calls Tryz.prog 85 #[.pointer (some ⟨WB, 4, none⟩), .slice oa r.length oc] W fun e w8 => e = .returned (.tuple #[]) ∧ w8.heap[w.heap.size]? = some (.cells #[.int .i64 3, .int .i64 a, .int .i64 b, .int .i64 c, .string s, .string t] 76) ∧
        Calls Tryz.prog 92 #[.slice (some ⟨w.heap.size + 1, 0, none⟩) s.size (s.size + 3), .string s] w8 fun e w9 => e = .returned (.bool true) ∧ R w9)) :
    Calls Tryz.prog 52 #[.pointer (some ⟨WB, 0, none⟩), opv 3 a b c s t] w fun e w' => e = .returned (.bool true) ∧ R w' := by
  have hbl := below1 w (.cells #[.int .i64 3, .int .i64 a, .int .i64 b, .int .i64 c, .string s, .string t] 76)
  have hob := heap_alloc_new w (.cells #[.int .i64 3, .int .i64 a, .int .i64 b, .int .i64 c, .string s, .string t] 76)
  have o0 := cellOf (j := 0) hob rfl
  have o4 := cellOf (j := 4) hob rfl
  have HBL := hid hbl
  have HOB := hid hob
  have HLB := hid (lentBytes_any (w.alloc (.cells #[.int .i64 3, .int .i64 a, .int .i64 b, .int .i64 c, .string s, .string t] 76)) s hs)
  rw [show (w.alloc (.cells #[.int .i64 3, .int .i64 a, .int .i64 b, .int .i64 c, .string s, .string t] 76)).heap.size = w.heap.size + 1 by simp] at HLB
  have hsl : s.size = s.data.toList.length := Lib.size_eq s
  have H87 : Hid (∀ w2 : World, w2.heap[w.heap.size + 1]? = some (.cells (lb s 3).toArray 5) → Below (w.heap.size + 1) (w.alloc (.cells #[.int .i64 3, .int .i64 a, .int .i64 b, .int .i64 c, .string s, .string t] 76)) w2 →
      Hid (w2.heap[w.heap.size]? = some (.cells #[.int .i64 3, .int .i64 a, .int .i64 b, .int .i64 c, .string s, .string t] 76)) ∧ Hid (Below w.heap.size w w2) ∧
      Hid (Calls Tryz.prog 93 #[.slice (some ⟨w.heap.size + 1, 0, none⟩) s.size (s.size + 3)] w2 fun e w' => (∃ v code r, e = .returned (.tuple #[v, .int .i64 (code : Nat)]) ∧ w'.ownsRow w2.heap.size 5 1 v r.length (bcells r) ∧ FTold s.data.toList v code r) ∧ Below w2.heap.size w2 w')) := by
    intro w2 hlb hb2
    exact ⟨(hb2.block _ (by omega)).trans HOB.out, HBL.out.trans (hb2.mono (Nat.le_succ _)), frame_two w2 _ _ _ _ hsl (lent_bsF s hlb) (ltOf hlb) (by omega)⟩
  have hconv : ∀ W, (convert 9 57 (.string s)).run Tryz.prog W = .ok (.slice (some ⟨W.heap.size, 0, none⟩) s.size (grownCap W s.size 0 5)) (Lib.bytesWorld W 5 s) := fun W => Lib.run_convert_string_bytes W 9 57 5 s Tryz.underlying9 Tryz.underlying57 Tryz.underlying5
  have H93 : Hid (∀ (w2 w3 : World), w2.heap[w.heap.size]? = some (.cells #[.int .i64 3, .int .i64 a, .int .i64 b, .int .i64 c, .string s, .string t] 76) → Below w2.heap.size w2 w3 →
      Hid (w3.heap[w.heap.size]? = some (.cells #[.int .i64 3, .int .i64 a, .int .i64 b, .int .i64 c, .string s, .string t] 76)) ∧
      Hid (Calls Tryz.prog 94 #[.slice (some ⟨w3.heap.size, 0, none⟩) s.size (grownCap w3 s.size 0 5)] (Lib.bytesWorld w3 5 s) fun e w' => (∃ v code r, e = .returned (.tuple #[v, .int .i64 (code : Nat)]) ∧ w'.ownsRow (Lib.bytesWorld w3 5 s).heap.size 5 1 v r.length (bcells r) ∧ FTold s.data.toList v code r) ∧ Below (Lib.bytesWorld w3 5 s).heap.size (Lib.bytesWorld w3 5 s) w')) := by
    intro w2 w3 ho hb
    exact ⟨(hb.block _ (ltOf ho)).trans ho, refFrame_two _ _ _ _ _ hsl (bytes_atF w3 s) (by rw [Lib.bytesWorld_size]; omega) (by omega)⟩
  clear hbl hob hsl
  go_enter Tryz.func52, Tryz.ntmps52
  go_wp2_with (first
    | (go_at_call 87; refine HLB.out.mono ?_; rintro e w2 ⟨rfl, hlb, hb2⟩; clear o0 o4; have HL2 := hid hlb; obtain ⟨HOB2, HLO2, HC93⟩ := H87.out w2 hlb hb2; have p4 := cellOf (j := 4) HOB2.out rfl; clear hlb hb2)
    | (go_at_call 93; refine HC93.out.mono ?_; rintro e w3 ⟨⟨ov, code, r, rfl, ho, hto⟩, hb3⟩; obtain ⟨HOB3, HC94⟩ := H93.out w2 w3 HOB2.out hb3; clear p4; have p4 := cellOf (j := 4) HOB3.out rfl; have HB3 := hid hb3; have HOV := hid ho; have HTO := hid hto; have h4c := hconv w3; clear hb3 ho hto)
    | (go_at_call 94; refine HC94.out.mono ?_; rintro e w6 ⟨⟨mv, code', r', rfl, hm, hto'⟩, hb6⟩; obtain ⟨rfl, rfl⟩ := HTO.out.same hto'; have HMV := hid hm; have HB6 := hid ((below_bytesF w3 s).trans (hb6.mono (below_bytesF w3 s).size)); have HOV6 := hid (ownsRow_below HOV.out HB6.out); have hcl := conv_own HOV6.out; have hcm := conv_own HMV.out; obtain ⟨oa, oc, rfl⟩ := own_shape HOV6.out; obtain ⟨ma, mc, rfl⟩ := own_shape HMV.out; clear hm hb6 hto' h4c p4))
  have hcode : code' ≤ 4 := by
    rcases HTO.out with ⟨_, _, _, h⟩ | ⟨_, _, h⟩ <;> omega
  have HSH : Hid ((oa = none ∧ r'.length = 0 ∧ oc = 0) ∨ (∃ ga, oa = some ga ∧ code' = 0)) := by
    rcases HOV6.out.2 with ⟨h, h'⟩ | ⟨g, cap, cur, h, _⟩
    · simp only [Value.slice.injEq] at h
      exact .inl h
    · simp only [Value.slice.injEq] at h
      rcases HTO.out with ⟨_, _, h2, _⟩ | ⟨_, _, h2⟩
      · simp only [Value.slice.injEq] at h2
        rw [h.1] at h2
        cases h2.1
      · exact .inr ⟨_, h.1, h2⟩
  have HKS2 : Hid (Calls Tryz.prog 85 #[.pointer (some ⟨WB, 4, none⟩), .slice oa r'.length oc] w6 fun e w8 => e = .returned (.tuple #[]) ∧ w8.heap[w.heap.size]? = some (.cells #[.int .i64 3, .int .i64 a, .int .i64 b, .int .i64 c, .string s, .string t] 76) ∧
        Calls Tryz.prog 92 #[.slice (some ⟨w.heap.size + 1, 0, none⟩) s.size (s.size + 3), .string s] w8 fun e w9 => e = .returned (.bool true) ∧ R w9) := by
    have h26 : Below w2.heap.size w2 w6 := HB3.out.trans (HB6.out.mono HB3.out.size)
    refine HKS.out w6 w2.heap.size oa oc r' ?_ (HLO2.out.trans (h26.mono HLO2.out.size)) (ltOf HL2.out) h26.size ((h26.block _ (ltOf HOB2.out)).trans HOB2.out) ((h26.block _ (ltOf HL2.out)).trans HL2.out) HOV6.out
    rcases HTO.out with ⟨_, h, _⟩ | ⟨h, h2, _⟩
    · rw [h]; simp
    · rw [h2, List.length_append, Orch.be_length]; omega
  have HTL := HTO
  clear HTO HTL HKS H87 H93 HLB HC93 HC94 hconv HB3 HB6 HOV HMV HL2 HLO2 HOB2 HOB3 HOB HBL
  rcases HSH.out with ⟨h1, h2, h3⟩ | ⟨ga, h1, h2⟩
  · subst h1 h3
    have hbs : r' = [] := List.length_eq_zero_iff.1 h2
    subst hbs
    have hq := nil57 w6
    refine (num_any w6 code' (by omega) (by omega)).mono ?_
    rintro e w8 ⟨rfl, hw8⟩
    have hw9 := hw8.symm
    clear hw8
    subst hw9
    go_wp2_with (first
      | (go_at_call 85; refine HKS2.out.mono ?_; rintro e w8 ⟨rfl, ho8, h92⟩; have z4 := cellOf (j := 4) ho8 rfl; have H92 := hid h92; clear ho8 h92)
      | (go_at_call 92; refine H92.out.mono ?_; rintro e w9 ⟨rfl, hr⟩; have HR := hid hr; clear hr))
    all_goals go_ret
    all_goals exact ⟨rfl, HR.out⟩
  · subst h1 h2
    have hq := some57 w6 ga r'.length oc
    refine (num_any w6 (0 : Nat) (by omega) (by omega)).mono ?_
    rintro e w8 ⟨rfl, hw8⟩
    have hw9 := hw8.symm
    clear hw8
    subst hw9
    go_wp2_with (first
      | (go_at_call 85; refine HKS2.out.mono ?_; rintro e w8 ⟨rfl, ho8, h92⟩; have z4 := cellOf (j := 4) ho8 rfl; have H92 := hid h92; clear ho8 h92)
      | (go_at_call 92; refine H92.out.mono ?_; rintro e w9 ⟨rfl, hr⟩; have HR := hid hr; clear hr))
    all_goals go_ret
    all_goals exact ⟨rfl, HR.out⟩

end Go.Proofs.YtlghcldiboecoaaGreatDoor
