/- The caller's step: Frame; what it does with the books behind it is a premise. -/
import Derived.Test.YtlghcldiboecoaaGreatDoorQ42
import Derived.Test.YtlghcldiboecoaaGreatDoorQ40
import Derived.Test.YtlghcldiboecoaaGreatDoorPKd
import Derived.Test.YtlghcldiboecoaaGreatDoorQ03
set_option linter.unusedVariables false
namespace Go.Proofs.YtlghcldiboecoaaGreatDoor
open Go.RowKit

/-- What Frame told of bs. -/
def FTold (bs : List UInt8) (v : Value) (code : Nat) (r : List UInt8) : Prop := (1000 < bs.length ∧ r = [] ∧ v = .slice none 0 0 ∧ code = 4) ∨ (bs.length ≤ 1000 ∧ r = Orch.be bs.length 4 ++ bs ∧ code = 0)

theorem FTold.same {bs : List UInt8} {v v' : Value} {c c' : Nat} {r r' : List UInt8} (h : FTold bs v c r) (h' : FTold bs v' c' r') : c' = c ∧ r' = r := by
  rcases h with ⟨h1, h2, _, h3⟩ | ⟨h1, h2, h3⟩ <;> rcases h' with ⟨k1, k2, _, k3⟩ | ⟨k1, k2, k3⟩
  · exact ⟨by omega, by rw [h2, k2]⟩
  · omega
  · omega
  · exact ⟨by omega, by rw [h2, k2]⟩

theorem frame_two (w : World) (g c n : Nat) (bs : List UInt8) (hn : n = bs.length) (hb : Bytes w g 0 bs) (hg : g < w.heap.size) (hm : bs.length ≤ 4000000) :
    Calls Tryz.prog 93 #[.slice (some ⟨g, 0, none⟩) n c] w fun e w' => (∃ v code r, e = .returned (.tuple #[v, .int .i64 (code : Nat)]) ∧ w'.ownsRow w.heap.size 5 1 v r.length (bcells r) ∧ FTold bs v code r) ∧ Below w.heap.size w w' := by
  subst hn
  by_cases hl : bs.length ≤ 1000
  · refine (frame_any w g c bs hb hg hl).mono ?_
    rintro e w' ⟨v, rfl, h1, h2⟩
    exact ⟨⟨v, 0, _, rfl, h1, .inr ⟨hl, rfl, rfl⟩⟩, h2⟩
  · refine (frame_long w g c bs (by omega) hm).mono ?_
    rintro e w' ⟨rfl, rfl⟩
    exact ⟨⟨_, 4, [], rfl, World.ownsRow_nil _ _ _ _, .inl ⟨by omega, rfl, rfl, rfl⟩⟩, Below.refl _ _⟩

theorem refFrame_two (w : World) (g c n : Nat) (bs : List UInt8) (hn : n = bs.length) (hb : Bytes w g 0 bs) (hg : g < w.heap.size) (hm : bs.length ≤ 4000000) :
    Calls Tryz.prog 94 #[.slice (some ⟨g, 0, none⟩) n c] w fun e w' => (∃ v code r, e = .returned (.tuple #[v, .int .i64 (code : Nat)]) ∧ w'.ownsRow w.heap.size 5 1 v r.length (bcells r) ∧ FTold bs v code r) ∧ Below w.heap.size w w' := by
  subst hn
  by_cases hl : bs.length ≤ 1000
  · refine (refFrame_any w g c bs hb hg hl).mono ?_
    rintro e w' ⟨v, rfl, h1, h2⟩
    exact ⟨⟨v, 0, _, rfl, h1, .inr ⟨hl, rfl, rfl⟩⟩, h2⟩
  · refine (refFrame_long w g c bs (by omega) hm).mono ?_
    rintro e w' ⟨rfl, rfl⟩
    exact ⟨⟨_, 4, [], rfl, World.ownsRow_nil _ _ _ _, .inl ⟨by omega, rfl, rfl, rfl⟩⟩, Below.refl _ _⟩

theorem below_bytesF (W : World) (s : ByteArray) : Below W.heap.size W (Lib.bytesWorld W 5 s) :=
  ⟨rfl, rfl, rfl, by rw [Lib.bytesWorld_size]; omega, fun k hk => Lib.bytesWorld_at_old W 5 s k hk⟩

theorem bytes_atF (W : World) (s : ByteArray) : Bytes (Lib.bytesWorld W 5 s) W.heap.size 0 s.data.toList := fun i hi => by
  rw [Nat.zero_add, Lib.bytesWorld_cell W 5 s i (by rw [Lib.size_eq]; exact hi), List.getD_eq_getElem?_getD, List.getElem?_eq_getElem hi]
  rfl

theorem lent_bsF {W : World} {g : Nat} (s : ByteArray) (h : W.heap[g]? = some (.cells (lb s 3).toArray 5)) : Bytes W g 0 s.data.toList := fun i hi => by
  rw [Nat.zero_add]
  refine cellOf h ?_
  rw [List.getElem?_toArray, lb, List.getElem?_append_left (by rw [bcells_len]; exact hi)]
  rw [bcells, List.getElem?_map, List.getElem?_eq_getElem hi]
  rfl

set_option maxRecDepth 8000 in
set_option maxHeartbeats 8000000 in
theorem codes_frame (w : World) (WB : Nat) (a b c : Int) (s t : ByteArray) (hs : s.size ≤ 4000000) (R : World → Prop)
    (HKS : Hid (∀ (W : World) (C : Nat) (oa : Option Addr) (oc : Nat) (r : List UInt8), r.length ≤ 1004 → Below w.heap.size w W → w.heap.size + 2 ≤ C → C ≤ W.heap.size → W.heap[w.heap.size]? = some (.cells #[.int .i64 3, .int .i64 a, .int .i64 b, .int .i64 c, .string s, .string t] 76) →
      W.heap[w.heap.size + 1]? = some (.cells (lb s 3).toArray 5) → W.ownsRow C 5 1 (.slice oa r.length oc) r.length (bcells r) →
      Calls Tryz.prog 85 #[.pointer (some ⟨WB, 4, none⟩), .slice oa r.length oc] W fun e w8 => e = .returned (.tuple #[]) ∧ w8.heap[w.heap.size]? = some (.cells #[.int .i64 3, .int .i64 a, .int .i64 b, .int .i64 c, .string s, .string t] 76) ∧
        Calls Tryz.prog 92 #[.slice (some ⟨w.heap.size + 1, 0, none⟩) s.size (s.size + 3), .string s] w8 fun e w9 => e = .returned (.bool true) ∧ R w9)) :
    Calls Tryz.prog 52 #[.pointer (some ⟨WB, 0, none⟩), opv 3 a b c s t] w fun e w' => e = .returned (.bool true) ∧ R w' := by
  have hbl := below1 w (.cells #[.int .i64 3, .int .i64 a, .int .i64 b, .int .i64 c, .string s, .string t] 76)
  have hob := heap_alloc_new w (.cells #[.int .i64 3, .int .i64 a, .int .i64 b, .int .i64 c, .string s, .string t] 76)
  have o0 := cellOf (j := 0) hob rfl
  have o4 := cellOf (j := 4) hob rfl
  have HBL := hid hbl
  have HOB := hid hob
  have HLB := hid (lentBytes_any (w.alloc (.cells #[.int .i64 3, .int .i64 a, .int .i64 b, .int .i64 c, .string s, .string t] 76)) s hs)
  rw [show (w.alloc (.cells #[.int .i64 3, .int .i64 a, .int .i64 b, .int .i64 c, .string s, .string t] 76)).heap.size = w.heap.size + 1 by simp] at HLB
  have hsl : s.size = s.data.toList.length := Lib.size_eq s
  have H87 : Hid (∀ w2 : World, w2.heap[w.heap.size + 1]? = some (.cells (lb s 3).toArray 5) → Below (w.heap.size + 1) (w.alloc (.cells #[.int .i64 3, .int .i64 a, .int .i64 b, .int .i64 c, .string s, .string t] 76)) w2 →
      Hid (w2.heap[w.heap.size]? = some (.cells #[.int .i64 3, .int .i64 a, .int .i64 b, .int .i64 c, .string s, .string t] 76)) ∧ Hid (Below w.heap.size w w2) ∧
      Hid (Calls Tryz.prog 93 #[.slice (some ⟨w.heap.size + 1, 0, none⟩) s.size (s.size + 3)] w2 fun e w' => (∃ v code r, e = .returned (.tuple #[v, .int .i64 (code : Nat)]) ∧ w'.ownsRow w2.heap.size 5 1 v r.length (bcells r) ∧ FTold s.data.toList v code r) ∧ Below w2.heap.size w2 w')) := by
    intro w2 hlb hb2
    exact ⟨(hb2.block _ (by omega)).trans HOB.out, HBL.out.trans (hb2.mono (Nat.le_succ _)), frame_two w2 _ _ _ _ hsl (lent_bsF s hlb) (ltOf hlb) (by omega)⟩
  have hconv : ∀ W, (convert 9 57 (.string s)).run Tryz.prog W = .ok (.slice (some ⟨W.heap.size, 0, none⟩) s.size (grownCap W s.size 0 5)) (Lib.bytesWorld W 5 s) := fun W => Lib.run_convert_string_bytes W 9 57 5 s Tryz.underlying9 Tryz.underlying57 Tryz.underlying5
  have H93 : Hid (∀ (w2 w3 : World), w2.heap[w.heap.size]? = some (.cells #[.int .i64 3, .int .i64 a, .int .i64 b, .int .i64 c, .string s, .string t] 76) → Below w2.heap.size w2 w3 →
      Hid (w3.heap[w.heap.size]? = some (.cells #[.int .i64 3, .int .i64 a, .int .i64 b, .int .i64 c, .string s, .string t] 76)) ∧
      Hid (Calls Tryz.prog 94 #[.slice (some ⟨w3.heap.size, 0, none⟩) s.size (grownCap w3 s.size 0 5)] (Lib.bytesWorld w3 5 s) fun e w' => (∃ v code r, e = .returned (.tuple #[v, .int .i64 (code : Nat)]) ∧ w'.ownsRow (Lib.bytesWorld w3 5 s).heap.size 5 1 v r.length (bcells r) ∧ FTold s.data.toList v code r) ∧ Below (Lib.bytesWorld w3 5 s).heap.size (Lib.bytesWorld w3 5 s) w')) := by
    intro w2 w3 ho hb
    exact ⟨(hb.block _ (ltOf ho)).trans ho, refFrame_two _ _ _ _ _ hsl (bytes_atF w3 s) (by rw [Lib.bytesWorld_size]; omega) (by omega)⟩
  clear hbl hob hsl
  go_enter Tryz.func52, Tryz.ntmps52
  go_wp2_with (first
    | (go_at_call 87; refine HLB.out.mono ?_; rintro e w2 ⟨rfl, hlb, hb2⟩; clear o0 o4; have HL2 := hid hlb; obtain ⟨HOB2, HLO2, HC93⟩ := H87.out w2 hlb hb2; have p4 := cellOf (j := 4) HOB2.out rfl; clear hlb hb2)
    | (go_at_call 93; refine HC93.out.mono ?_; rintro e w3 ⟨⟨ov, code, r, rfl, ho, hto⟩, hb3⟩; obtain ⟨HOB3, HC94⟩ := H93.out w2 w3 HOB2.out hb3; clear p4; have p4 := cellOf (j := 4) HOB3.out rfl; have HB3 := hid hb3; have HOV := hid ho; have HTO := hid hto; have h4c := hconv w3; clear hb3 ho hto)
    | (go_at_call 94; refine HC94.out.mono ?_; rintro e w6 ⟨⟨mv, code', r', rfl, hm, hto'⟩, hb6⟩; obtain ⟨rfl, rfl⟩ := HTO.out.same hto'; have HMV := hid hm; have HB6 := hid ((below_bytesF w3 s).trans (hb6.mono (below_bytesF w3 s).size)); have HOV6 := hid (ownsRow_below HOV.out HB6.out); have hcl := conv_own HOV6.out; have hcm := conv_own HMV.out; obtain ⟨oa, oc, rfl⟩ := own_shape HOV6.out; obtain ⟨ma, mc, rfl⟩ := own_shape HMV.out; clear hm hb6 hto' h4c p4))
  have hcode : code' ≤ 4 := by
    rcases HTO.out with ⟨_, _, _, h⟩ | ⟨_, _, h⟩ <;> omega
  have HSH : Hid ((oa = none ∧ r'.length = 0 ∧ oc = 0) ∨ (∃ ga, oa = some ga ∧ code' = 0)) := by
    rcases HOV6.out.2 with ⟨h, h'⟩ | ⟨g, cap, cur, h, _⟩
    · simp only [Value.slice.injEq] at h
      exact .inl h
    · simp only [Value.slice.injEq] at h
      rcases HTO.out with ⟨_, _, h2, _⟩ | ⟨_, _, h2⟩
      · simp only [Value.slice.injEq] at h2
        rw [h.1] at h2
        cases h2.1
      · exact .inr ⟨_, h.1, h2⟩
  have HKS2 : Hid (Calls Tryz.prog 85 #[.pointer (some ⟨WB, 4, none⟩), .slice oa r'.length oc] w6 fun e w8 => e = .returned (.tuple #[]) ∧ w8.heap[w.heap.size]? = some (.cells #[.int .i64 3, .int .i64 a, .int .i64 b, .int .i64 c, .string s, .string t] 76) ∧
        Calls Tryz.prog 92 #[.slice (some ⟨w.heap.size + 1, 0, none⟩) s.size (s.size + 3), .string s] w8 fun e w9 => e = .returned (.bool true) ∧ R w9) := by
    have h26 : Below w2.heap.size w2 w6 := HB3.out.trans (HB6.out.mono HB3.out.size)
    refine HKS.out w6 w2.heap.size oa oc r' ?_ (HLO2.out.trans (h26.mono HLO2.out.size)) (ltOf HL2.out) h26.size ((h26.block _ (ltOf HOB2.out)).trans HOB2.out) ((h26.block _ (ltOf HL2.out)).trans HL2.out) HOV6.out
    rcases HTO.out with ⟨_, h, _⟩ | ⟨h, h2, _⟩
    · rw [h]; simp
    · rw [h2, List.length_append, Orch.be_length]; omega
  have HTL := HTO
  clear HTO HTL HKS H87 H93 HLB HC93 HC94 hconv HB3 HB6 HOV HMV HL2 HLO2 HOB2 HOB3 HOB HBL
  rcases HSH.out with ⟨h1, h2, h3⟩ | ⟨ga, h1, h2⟩
  · subst h1 h3
    have hbs : r' = [] := List.length_eq_zero_iff.1 h2
    subst hbs
    have hq := nil57 w6
    refine (num_any w6 code' (by omega) (by omega)).mono ?_
    rintro e w8 ⟨rfl, hw8⟩
    have hw9 := hw8.symm
    clear hw8
    subst hw9
    go_wp2_with (first
      | (go_at_call 85; refine HKS2.out.mono ?_; rintro e w8 ⟨rfl, ho8, h92⟩; have z4 := cellOf (j := 4) ho8 rfl; have H92 := hid h92; clear ho8 h92)
      | (go_at_call 92; refine H92.out.mono ?_; rintro e w9 ⟨rfl, hr⟩; have HR := hid hr; clear hr))
    all_goals go_ret
    all_goals exact ⟨rfl, HR.out⟩
  · subst h1 h2
    have hq := some57 w6 ga r'.length oc
    refine (num_any w6 (0 : Nat) (by omega) (by omega)).mono ?_
    rintro e w8 ⟨rfl, hw8⟩
    have hw9 := hw8.symm
    clear hw8
    subst hw9
    go_wp2_with (first
      | (go_at_call 85; refine HKS2.out.mono ?_; rintro e w8 ⟨rfl, ho8, h92⟩; have z4 := cellOf (j := 4) ho8 rfl; have H92 := hid h92; clear ho8 h92)
      | (go_at_call 92; refine H92.out.mono ?_; rintro e w9 ⟨rfl, hr⟩; have HR := hid hr; clear hr))
    all_goals go_ret
    all_goals exact ⟨rfl, HR.out⟩

end Go.Proofs.YtlghcldiboecoaaGreatDoor

/- The caller's books of bytes and of bodies, their marks among blocks S. -/
namespace Go.Proofs.YtlghcldiboecoaaGreatDoor
open Go.RowKit

/-- The i-th entry of the books of bytes, of bodies. -/
def EntS (W : World) (S : Nat → Prop) (flat : List Value) (i : Nat) : Prop :=
  ∃ l a b c, flat[i * 5]? = some l ∧ flat[i * 5 + 1]? = some a ∧ flat[i * 5 + 2]? = some b ∧ flat[i * 5 + 3]? = some c ∧ flat[i * 5 + 4]? = some (.int .i64 i) ∧ MfAt W S 5 (bmark i) l ∧ MfAt W S 5 (bmark i) a ∧ MfAt W S 5 (bmark i) b ∧ MfAt W S 5 (bmark i) c

def EntD (W : World) (S : Nat → Prop) (flat : List Value) (i : Nat) : Prop :=
  ∃ MB l a b c, flat[i * 5]? = some l ∧ flat[i * 5 + 1]? = some a ∧ flat[i * 5 + 2]? = some b ∧ flat[i * 5 + 3]? = some c ∧ flat[i * 5 + 4]? = some (.int .i64 i) ∧ MfAt W S 57 (dmark MB i) l ∧ MfAt W S 57 (dmark MB i) a ∧ MfAt W S 57 (dmark MB i) b ∧ MfAt W S 57 (dmark MB i) c

/-- The caller's world: x0 to x3 are its four cells ahead of the books. -/
structure Bc (W : World) (WB B : Nat) (S : Nat → Prop) (x0 x1 x2 x3 : Value) (N : Nat) (ba : Option Addr) (bc : Nat) (flat : List Value) (M : Nat) (da : Option Addr) (dc : Nat) (flad : List Value) : Prop where
  blk : W.heap[WB]? = some (.cells #[x0, x1, x2, x3, .slice ba N bc, .slice da M dc, .slice none 0 0, .slice none 0 0] 73)
  row : W.ownsRow B 120 5 (.slice ba N bc) N flat
  rod : W.ownsRow B 124 5 (.slice da M dc) M flad
  le : B ≤ W.heap.size
  ent : ∀ i, i < N → EntS W S flat i
  end' : ∀ i, i < M → EntD W S flad i
  sl : ∀ g, S g → g < W.heap.size

/-- What a step of the books at WB, whose rows lie from B on, leaves alone; where their marks lie now. -/
structure Go2 (WB B : Nat) (ch S S' : Nat → Prop) (W W' : World) : Prop where
  os : W'.os = W.os
  tape : W'.tape = W.tape
  output : W'.output = W.output
  size : W.heap.size ≤ W'.heap.size
  same : ∀ i, i < W.heap.size → i ≠ WB → (i < B ∨ ∀ cs t, W.heap[i]? = some (.cells cs t) → t ≠ 120 ∧ t ≠ 124) → ¬ ch i → W'.heap[i]? = W.heap[i]?
  new : ∀ g, S' g → S g ∨ ch g ∨ W.heap.size ≤ g

variable {W W' W'' : World} {WB B : Nat} {S S' S'' ch ch' : Nat → Prop} {x0 x1 x2 x3 : Value} {N : Nat} {ba : Option Addr} {bc : Nat} {flat : List Value} {M : Nat} {da : Option Addr} {dc : Nat} {flad : List Value}

theorem Go2.refl : Go2 WB B ch S S W W := ⟨rfl, rfl, rfl, Nat.le_refl _, fun _ _ _ _ _ => rfl, fun _ h => .inl h⟩
theorem Go2.mono (h : Go2 WB B ch S S' W W') (hc : ∀ g, ch g → ch' g) : Go2 WB B ch' S S' W W' :=
  ⟨h.os, h.tape, h.output, h.size, fun i h0 h1 h2 h4 => h.same i h0 h1 h2 (fun x => h4 (hc _ x)), fun g hg => (h.new g hg).imp id (fun x => x.imp (hc g) id)⟩

theorem Go2.trans (h : Go2 WB B ch S S' W W') (h' : Go2 WB B ch S' S'' W' W'') : Go2 WB B ch S S'' W W'' :=
  ⟨h'.os.trans h.os, h'.tape.trans h.tape, h'.output.trans h.output, Nat.le_trans h.size h'.size, fun i h0 h1 h2 h4 => by
    have e := h.same i h0 h1 h2 h4
    exact (h'.same i (Nat.lt_of_lt_of_le h0 h.size) h1 (by rw [e]; exact h2) h4).trans e, fun g hg => by
    rcases h'.new g hg with h1 | h1 | h1
    · exact h.new g h1
    · exact .inr (.inl h1)
    · exact .inr (.inr (Nat.le_trans h.size h1))⟩

theorem Go2.cells (h : Go2 WB B ch S S' W W') {i : Nat} {cs : Array Value} {t : TypeId} (hi : W.heap[i]? = some (.cells cs t)) (h0 : i ≠ WB) (h1 : t ≠ 120) (h2 : t ≠ 124) (h3 : ¬ ch i) : W'.heap[i]? = W.heap[i]? :=
  h.same i (ltOf hi) h0 (.inr fun cs' t' h' => by rw [hi] at h'; cases h'; exact ⟨h1, h2⟩) h3

theorem get_more {flat more : List Value} {j : Nat} {u : Value} (h : flat[j]? = some u) : (flat ++ more)[j]? = some u := by
  rw [List.getElem?_append_left (List.getElem?_eq_some_iff.1 h).1]; exact h

theorem EntS.keep {i : Nat} {more : List Value} (h : EntS W S flat i) (hs : ∀ g cs, S g → W.heap[g]? = some (.cells cs 5) → W'.heap[g]? = W.heap[g]?) (hSS : ∀ g, S g → S' g) : EntS W' S' (flat ++ more) i := by
  obtain ⟨l, a, b, c, h0, h1, h2, h3, h4, m0, m1, m2, m3⟩ := h
  exact ⟨l, a, b, c, get_more h0, get_more h1, get_more h2, get_more h3, get_more h4, m0.keep hs (fun g _ h _ => hSS g h), m1.keep hs (fun g _ h _ => hSS g h), m2.keep hs (fun g _ h _ => hSS g h), m3.keep hs (fun g _ h _ => hSS g h)⟩

theorem EntD.keep {i : Nat} {more : List Value} (h : EntD W S flat i) (hs : ∀ g cs, S g → W.heap[g]? = some (.cells cs 57) → W'.heap[g]? = W.heap[g]?) (hSS : ∀ g, S g → S' g) : EntD W' S' (flat ++ more) i := by
  obtain ⟨MB, l, a, b, c, h0, h1, h2, h3, h4, m0, m1, m2, m3⟩ := h
  exact ⟨MB, l, a, b, c, get_more h0, get_more h1, get_more h2, get_more h3, get_more h4, m0.keep hs (fun g _ h _ => hSS g h), m1.keep hs (fun g _ h _ => hSS g h), m2.keep hs (fun g _ h _ => hSS g h), m3.keep hs (fun g _ h _ => hSS g h)⟩

theorem Bc.keep (h : Bc W WB B S x0 x1 x2 x3 N ba bc flat M da dc flad) (hsz : W.heap.size ≤ W'.heap.size)
    (hs : ∀ i cs t, W.heap[i]? = some (.cells cs t) → t = 73 ∨ t = 120 ∨ t = 124 ∨ (S i ∧ (t = 5 ∨ t = 57)) → W'.heap[i]? = W.heap[i]?) : Bc W' WB B S x0 x1 x2 x3 N ba bc flat M da dc flad := by
  refine ⟨(hs _ _ _ h.blk (.inl rfl)).trans h.blk, own_sameS h.row (fun g cs _ hg => hs g cs _ hg (.inr (.inl rfl))), own_sameS h.rod (fun g cs _ hg => hs g cs _ hg (.inr (.inr (.inl rfl)))), Nat.le_trans h.le hsz, fun i hi => ?_, fun i hi => ?_, fun g hg => Nat.lt_of_lt_of_le (h.sl g hg) hsz⟩
  · have := (h.ent i hi).keep (W' := W') (S' := S) (more := []) (fun g cs hg hc => hs g cs 5 hc (.inr (.inr (.inr ⟨hg, .inl rfl⟩)))) (fun _ h => h)
    rwa [List.append_nil] at this
  · have := (h.end' i hi).keep (W' := W') (S' := S) (more := []) (fun g cs hg hc => hs g cs 57 hc (.inr (.inr (.inr ⟨hg, .inr rfl⟩)))) (fun _ h => h)
    rwa [List.append_nil] at this

theorem Bc.below (h : Bc W WB B S x0 x1 x2 x3 N ba bc flat M da dc flad) (hb : Below W.heap.size W W') : Bc W' WB B S x0 x1 x2 x3 N ba bc flat M da dc flad :=
  h.keep hb.size (fun i cs t hi _ => hb.block i (ltOf hi))

theorem MfAt.mk {i : Nat} {v : Value} (h : MfAt W S 5 (bmark i) v) : MkAt W W.heap.size i v := by
  obtain ⟨la, ln, lc, hv, h1, h2, h3⟩ := h
  refine ⟨la, ln, lc, hv, h1, h2, fun j hj => ?_⟩
  obtain ⟨g, cs, hg, _, ht, hc⟩ := h3 j hj
  exact ⟨g, hg, ltOf ht, hc⟩

theorem MfAt.mb {i MB : Nat} {v : Value} (h : MfAt W S 57 (dmark MB i) v) : MbAt W W.heap.size i v := by
  obtain ⟨la, ln, lc, hv, h1, h2, h3⟩ := h
  refine ⟨la, ln, lc, hv, h1, h2, fun j hj => ?_⟩
  obtain ⟨g, cs, hg, _, ht, hc⟩ := h3 j hj
  exact ⟨g, _, _, hg, ltOf ht, hc, cs, ht⟩

theorem Bc.whole (h : Bc W WB B S x0 x1 x2 x3 N ba bc flat M da dc flad) (hN : N ≤ 140737488355328) (hM : M ≤ 1000000000) :
    Calls Tryz.prog 27 #[.pointer (some ⟨WB, 4, none⟩)] W fun e w' => e = .returned (.bool true) ∧ Below W.heap.size W w' := by
  refine wholeB_any W WB 4 ba N bc da M dc (ltOf h.blk) hN hM (cellOf h.blk rfl) (cellOf h.blk rfl) (cellOf h.blk rfl) (cellOf h.blk rfl) (fun i hi => ?_) (fun i hi => ?_)
  · obtain ⟨l, a, b, c, h0, h1, h2, h3, h4, m0, m1, m2, m3⟩ := h.ent i hi
    rcases h.row.2 with ⟨_, h0'⟩ | ⟨g, cap, cur, hv, k1, k2, k3, _⟩
    · omega
    · cases hv
      have hc : ∀ j u, flat[j]? = some u → W.cell? ⟨g, j, none⟩ = some u := fun j u hj => by
        have := h.row.cells (g := g) rfl j u hj
        rwa [Addr.add_lit, Nat.zero_add] at this
      exact ⟨g, l, a, b, c, rfl, ltOf k2, k3, hc _ _ h0, hc _ _ h1, hc _ _ h2, hc _ _ h3, hc _ _ h4, m0.mk, m1.mk, m2.mk, m3.mk⟩
  · obtain ⟨MB, l, a, b, c, h0, h1, h2, h3, h4, m0, m1, m2, m3⟩ := h.end' i hi
    rcases h.rod.2 with ⟨_, h0'⟩ | ⟨g, cap, cur, hv, k1, k2, k3, _⟩
    · omega
    · cases hv
      have hc : ∀ j u, flad[j]? = some u → W.cell? ⟨g, j, none⟩ = some u := fun j u hj => by
        have := h.rod.cells (g := g) rfl j u hj
        rwa [Addr.add_lit, Nat.zero_add] at this
      exact ⟨g, l, a, b, c, rfl, ltOf k2, k3, hc _ _ h0, hc _ _ h1, hc _ _ h2, hc _ _ h3, hc _ _ h4, m0.mb, m1.mb, m2.mb, m3.mb⟩

theorem get_new {flat : List Value} {n : Nat} (h : flat.length = n * 5) (l a b c z : Value) : (flat ++ [l, a, b, c, z])[n * 5]? = some l ∧ (flat ++ [l, a, b, c, z])[n * 5 + 1]? = some a ∧ (flat ++ [l, a, b, c, z])[n * 5 + 2]? = some b ∧ (flat ++ [l, a, b, c, z])[n * 5 + 3]? = some c ∧ (flat ++ [l, a, b, c, z])[n * 5 + 4]? = some z := by
  refine ⟨?_, ?_, ?_, ?_, ?_⟩ <;> rw [List.getElem?_append_right (by omega), h] <;> simp [Nat.add_sub_cancel_left]

/-- A list of bytes is kept. -/
theorem Bc.kb (h : Bc W WB B S x0 x1 x2 x3 N ba bc flat M da dc flad) (hN : N ≤ 1000000000) (lv : Value) (k : Nat) (xs : List Value) (hk : k ≤ 1500) (hown : W.ownsRow 0 5 1 lv k xs) (hlS : ∀ g, lv.ownBlock = some g → ¬ S g) :
    Calls Tryz.prog 85 #[.pointer (some ⟨WB, 4, none⟩), lv] W fun e W' => e = .returned (.tuple #[]) ∧ ∃ S' ba' bc' flat', Bc W' WB B S' x0 x1 x2 x3 (N + 1) ba' bc' flat' M da dc flad ∧ Go2 WB B (fun g => lv.ownBlock = some g) S S' W W' := by
  refine (keepBytes_wide W WB 4 _ 73 ba N bc h.blk rfl (by decide) (by decide) B flat h.row h.le lv k xs hk hN hown).mono ?_
  rintro e W' ⟨rfl, ba', bc', l, a, b, c, H⟩
  have hlt : ∀ g cs t, lv.ownBlock = some g → W.heap[g]? = some (.cells cs t) → t = 5 := fun g cs t hg ht => by
    obtain ⟨c1, t1⟩ := own_type hown hg
    rw [ht] at t1; cases t1; rfl
  have hrt : ∀ g cs t, (Value.slice ba N bc).ownBlock = some g → W.heap[g]? = some (.cells cs t) → t = 120 := fun g cs t hg ht => by
    obtain ⟨c1, t1⟩ := own_type h.row hg
    rw [ht] at t1; cases t1; rfl
  have hwt : ∀ cs t, W.heap[WB]? = some (.cells cs t) → t = 73 := fun cs t ht => by
    have := h.blk
    rw [ht] at this; cases this; rfl
  have hsame : ∀ i cs t, W.heap[i]? = some (.cells cs t) → t ≠ 73 → t ≠ 120 → lv.ownBlock ≠ some i → W'.heap[i]? = W.heap[i]? := fun i cs t hi h1 h2 h3 =>
    H.same i (ltOf hi) (fun e => by subst e; exact h1 (hwt cs t hi)) (fun e => h2 (hrt i cs t e hi)) h3
  have hrow : ∀ i, (i < B ∨ ∀ cs t, W.heap[i]? = some (.cells cs t) → t ≠ 120 ∧ t ≠ 124) → (Value.slice ba N bc).ownBlock ≠ some i := fun i hi e => by
    have h1 := (h.row.lt i e).1
    obtain ⟨c1, t1⟩ := own_type h.row e
    rcases hi with hi | hi
    · omega
    · exact (hi _ _ t1).1 rfl
  refine ⟨rfl, fun g => (S g ∨ lv.ownBlock = some g ∨ W.heap.size ≤ g) ∧ g < W'.heap.size, ba', bc', _, ⟨H.kb, H.row, own_sameS h.rod (fun g cs hg ht => hsame g cs _ ht (by decide) (by decide) (fun e => by cases hlt g cs _ e ht)), Nat.le_trans h.le H.size, fun i hi => ?_, fun i hi => ?_, fun g hg => hg.2⟩, ⟨H.os, H.tape, H.output, H.size, fun i hi h1 h2 h4 => H.same i hi h1 (hrow i h2) h4, fun g hg => hg.1⟩⟩
  · by_cases hiN : i < N
    · exact (h.ent i hiN).keep (fun g cs hg ht => hsame g cs _ ht (by decide) (by decide) (fun e => hlS g e hg)) (fun g hg => ⟨.inl hg, Nat.lt_of_lt_of_le (h.sl g hg) H.size⟩)
    · obtain rfl : i = N := by omega
      obtain ⟨g0, g1, g2, g3, g4⟩ := get_new (n := i) h.row.1 l a b c (.int .i64 i)
      exact ⟨l, a, b, c, g0, g1, g2, g3, g4, H.ml.keep (fun _ _ _ _ => rfl) (fun g cs hg ht => ⟨.inr hg, ltOf ht⟩), H.ma.keep (fun _ _ _ _ => rfl) (fun g cs hg ht => ⟨.inr hg, ltOf ht⟩), H.mb.keep (fun _ _ _ _ => rfl) (fun g cs hg ht => ⟨.inr hg, ltOf ht⟩), H.mc.keep (fun _ _ _ _ => rfl) (fun g cs hg ht => ⟨.inr hg, ltOf ht⟩)⟩
  · have := (h.end' i hi).keep (W' := W') (S' := fun g => (S g ∨ lv.ownBlock = some g ∨ W.heap.size ≤ g) ∧ g < W'.heap.size) (more := []) (fun g cs hg ht => hsame g cs _ ht (by decide) (by decide) (fun e => hlS g e hg)) (fun g hg => ⟨.inl hg, Nat.lt_of_lt_of_le (h.sl g hg) H.size⟩)
    rwa [List.append_nil] at this

/-- A list of bodies is kept, and they. -/
theorem Bc.kd (h : Bc W WB B S x0 x1 x2 x3 N ba bc flat M da dc flad) (k : Nat) (hk : k ≤ 2000000) (hN : N + k ≤ 1000000000) (hM : M ≤ 1000000000) (la : Option Addr) (lc : Nat) (xs : List Value) (hlst : W.ownsRow 0 57 1 (.slice la k lc) k xs) (hlS : ∀ g, (Value.slice la k lc).ownBlock = some g → ¬ S g)
    (hb : ∀ (i : Nat) (x : Value), xs[i]? = some x → ∃ r n c ys, x = .slice (some ⟨r, 0, none⟩) n c ∧ n ≤ 1500 ∧ W.ownsRow 0 5 1 x n ys ∧ ¬ S r) (hd : ∀ (i j : Nat) (x y : Value), xs[i]? = some x → xs[j]? = some y → i ≠ j → x.ownBlock ≠ y.ownBlock) :
    Calls Tryz.prog 100 #[.pointer (some ⟨WB, 4, none⟩), .slice la k lc] W fun e W' => e = .returned (.tuple #[]) ∧ ∃ S' N' ba' bc' flat' da' dc' flad', N' = N + k ∧ Bc W' WB B S' x0 x1 x2 x3 N' ba' bc' flat' (M + 1) da' dc' flad' ∧
      Go2 WB B (fun g => (Value.slice la k lc).ownBlock = some g ∨ ∃ x, x ∈ xs ∧ x.ownBlock = some g) S S' W W' := by
  have hxl : xs.length = k := by have := hlst.1; omega
  have hlt : ∀ g cs t, (Value.slice la k lc).ownBlock = some g → W.heap[g]? = some (.cells cs t) → t = 57 := fun g cs t hg ht => by
    obtain ⟨c1, t1⟩ := own_type hlst hg
    rw [ht] at t1; cases t1; rfl
  have hbt : ∀ (i : Nat) (x : Value) (g : Nat) cs t, xs[i]? = some x → x.ownBlock = some g → W.heap[g]? = some (.cells cs t) → t = 5 := fun i x g cs t hx hg ht => by
    obtain ⟨r, n, c, ys, rfl, _, ho, _⟩ := hb i x hx
    obtain ⟨c1, t1⟩ := own_type ho hg
    rw [ht] at t1; cases t1; rfl
  let I : Nat → World → Prop := fun i W' => ∃ S' ba' bc' flat', Bc W' WB B S' x0 x1 x2 x3 (N + i) ba' bc' flat' M da dc flad ∧ Go2 WB B (fun g => ∃ (j : Nat) (x : Value), j < i ∧ xs[j]? = some x ∧ x.ownBlock = some g) S S' W W'
  have hkeepL : ∀ {i W' S'}, Go2 WB B (fun g => ∃ (j : Nat) (x : Value), j < i ∧ xs[j]? = some x ∧ x.ownBlock = some g) S S' W W' → W'.ownsRow 0 57 1 (.slice la k lc) k xs := fun G => own_sameS hlst (fun g cs hg ht => G.cells ht (fun e => by have := h.blk; rw [← e, ht] at this; cases this) (by decide) (by decide) (fun ⟨j, x, _, hx, hxg⟩ => by cases hbt j x g cs _ hx hxg ht))
  refine (kbd_walk W WB B k hk la lc I ⟨S, ba, bc, flat, h, .refl⟩ (fun i => xs.getD i (.slice none 0 0)) ?_ (fun W' cs M' da' dc' flad' => M' = M ∧ da' = da ∧ dc' = dc ∧ flad' = flad ∧ I k W' ∧ ∃ ba' bc', cs = #[x0, x1, x2, x3, .slice ba' (N + k) bc', .slice da M dc, .slice none 0 0, .slice none 0 0] ∧ W'.heap[WB]? = some (.cells cs 73)) ?_).mono ?_
  · intro i W' hi ⟨S', ba', bc', flat', hB, G⟩
    have hx : xs[i]? = some (xs.getD i (.slice none 0 0)) := by simp [List.getD, List.getElem?_eq_getElem (show i < xs.length by omega)]
    obtain ⟨r, n, c, ys, hxe, hn, ho, hS⟩ := hb i _ hx
    have hL := hkeepL G
    rcases hL.2 with ⟨hz, h0⟩ | ⟨g, cap, cur, hv, _, hg, hcap, _⟩
    · omega
    · cases hv
      refine ⟨g, _, _, _, rfl, hcap, hxe, ?_, ?_⟩
      · have := hL.cells (g := g) rfl i _ hx
        rwa [Addr.add_lit, Nat.zero_add] at this
      · have ho' : W'.ownsRow 0 5 1 (xs.getD i (.slice none 0 0)) n ys := own_sameS ho (fun g' cs hg' ht => G.cells ht (fun e => by have := h.blk; rw [← e, ht] at this; cases this) (by decide) (by decide) (fun ⟨j, x, hj, hxj, hxg⟩ => hd i j _ x hx hxj (by omega) (hg'.trans hxg.symm)))
        refine (hB.kb (by omega) _ n ys hn ho' (fun g' hg' hS' => ?_)).mono ?_
        · rcases G.new g' hS' with h1 | ⟨j, x, hj, hxj, hxg⟩ | h1
          · rw [hxe] at hg'
            cases hg'
            exact hS h1
          · exact hd i j _ x hx hxj (by omega) (hg'.trans hxg.symm)
          · obtain ⟨c1, t1⟩ := own_type ho hg'
            have := ltOf t1
            omega
        · rintro e W2 ⟨rfl, S2, ba2, bc2, flat2, hB2, G2⟩
          exact ⟨rfl, S2, ba2, bc2, flat2, hB2, (G.mono (fun g' ⟨j, x, hj, h⟩ => ⟨j, x, by omega, h⟩)).trans (G2.mono (fun g' hg' => ⟨i, _, by omega, hx, hg'⟩))⟩
  · intro W' hI
    obtain ⟨S', ba', bc', flat', hB, G⟩ := id hI
    exact ⟨_, M, da, dc, flad, xs, ⟨hB.blk, rfl, hB.rod, hB.le, hM, hkeepL G⟩, rfl, rfl, rfl, rfl, hI, ba', bc', rfl, hB.blk⟩
  · rintro e W2 ⟨rfl, W', cs, M', da', dc', flad', MB, da2, dc2, l, a, b, c, ⟨rfl, rfl, rfl, rfl, ⟨S', ba', bc', flat', hB, G⟩, ba1, bc1, rfl, hcs⟩, H⟩
    have hcs' := hcs
    rw [hB.blk] at hcs'
    simp only [Option.some.injEq, Obj.cells.injEq] at hcs'
    obtain ⟨hcs', _⟩ := hcs'
    have hL := hkeepL G
    have hlt' : ∀ g cs t, (Value.slice la k lc).ownBlock = some g → W'.heap[g]? = some (.cells cs t) → t = 57 := fun g cs t hg ht => by
      obtain ⟨c1, t1⟩ := own_type hL hg
      rw [ht] at t1; cases t1; rfl
    have hrt : ∀ g cs t, (Value.slice da' M' dc').ownBlock = some g → W'.heap[g]? = some (.cells cs t) → t = 124 := fun g cs t hg ht => by
      obtain ⟨c1, t1⟩ := own_type hB.rod hg
      rw [ht] at t1; cases t1; rfl
    have hwt : ∀ cs t, W'.heap[WB]? = some (.cells cs t) → t = 73 := fun cs t ht => by
      have := hB.blk
      rw [ht] at this; cases this; rfl
    have hsame : ∀ i cs t, W'.heap[i]? = some (.cells cs t) → t ≠ 73 → t ≠ 124 → (Value.slice la k lc).ownBlock ≠ some i → W2.heap[i]? = W'.heap[i]? := fun i cs t hi h1 h2 h3 =>
      H.same i (ltOf hi) (fun e => by subst e; exact h1 (hwt cs t hi)) (fun e => h2 (hrt i cs t e hi)) h3
    have hlS' : ∀ g, (Value.slice la k lc).ownBlock = some g → ¬ S' g := fun g hg hS => by
      obtain ⟨c1, t1⟩ := own_type hlst hg
      rcases G.new g hS with h1 | ⟨j, x, hj, hxj, hxg⟩ | h1
      · exact hlS g hg h1
      · cases hbt j x g _ _ hxj hxg t1
      · have := ltOf t1
        omega
    have hrow : ∀ i, (i < B ∨ ∀ cs t, W'.heap[i]? = some (.cells cs t) → t ≠ 120 ∧ t ≠ 124) → (Value.slice da' M' dc').ownBlock ≠ some i := fun i hi e => by
      have h1 := (hB.rod.lt i e).1
      obtain ⟨c1, t1⟩ := own_type hB.rod e
      rcases hi with hi | hi
      · omega
      · exact (hi _ _ t1).2 rfl
    refine ⟨rfl, fun g => (S' g ∨ (Value.slice la k lc).ownBlock = some g ∨ W'.heap.size ≤ g) ∧ g < W2.heap.size, N + k, ba', bc', flat', da2, dc2, _, rfl, ⟨?_, own_sameS hB.row (fun g cs hg ht => hsame g cs _ ht (by decide) (by decide) (fun e => by cases hlt' g cs _ e ht)), H.row, Nat.le_trans hB.le H.size, fun i hi => ?_, fun i hi => ?_, fun g hg => hg.2⟩, ?_⟩
    · have := H.kb
      rw [← hcs'] at this
      exact this
    · have := (hB.ent i hi).keep (W' := W2) (S' := fun g => (S' g ∨ (Value.slice la k lc).ownBlock = some g ∨ W'.heap.size ≤ g) ∧ g < W2.heap.size) (more := []) (fun g cs hg ht => hsame g cs _ ht (by decide) (by decide) (fun e => hlS' g e hg)) (fun g hg => ⟨.inl hg, Nat.lt_of_lt_of_le (hB.sl g hg) H.size⟩)
      rwa [List.append_nil] at this
    · by_cases hiM : i < M'
      · exact (hB.end' i hiM).keep (fun g cs hg ht => hsame g cs _ ht (by decide) (by decide) (fun e => hlS' g e hg)) (fun g hg => ⟨.inl hg, Nat.lt_of_lt_of_le (hB.sl g hg) H.size⟩)
      · obtain rfl : i = M' := by omega
        obtain ⟨g0, g1, g2, g3, g4⟩ := get_new (n := i) hB.rod.1 l a b c (.int .i64 i)
        exact ⟨MB, l, a, b, c, g0, g1, g2, g3, g4, H.ml.keep (fun _ _ _ _ => rfl) (fun g cs hg ht => ⟨.inr hg, ltOf ht⟩), H.ma.keep (fun _ _ _ _ => rfl) (fun g cs hg ht => ⟨.inr hg, ltOf ht⟩), H.mb.keep (fun _ _ _ _ => rfl) (fun g cs hg ht => ⟨.inr hg, ltOf ht⟩), H.mc.keep (fun _ _ _ _ => rfl) (fun g cs hg ht => ⟨.inr hg, ltOf ht⟩)⟩
    · refine (G.mono (fun g ⟨j, x, hj, hx, hg⟩ => .inr ⟨x, List.mem_of_getElem? hx, hg⟩)).trans ⟨H.os, H.tape, H.output, H.size, fun i hi h1 h2 h4 => H.same i hi h1 (hrow i h2) (fun e => h4 (.inl e)), fun g hg => ?_⟩
      rcases hg.1 with h1 | h1 | h1
      · exact .inl h1
      · exact .inr (.inl (.inl h1))
      · exact .inr (.inr h1)

end Go.Proofs.YtlghcldiboecoaaGreatDoor
