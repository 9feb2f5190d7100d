/- How types and values lie in memory. -/
import Derived.Test.YtbnoghkijgmcgaaDoorFits
import Derived.Deep.AppendLies
namespace Go.Proofs.YtbnoghkijgmcgaaDoor
open Go.RowKit Orch

theorem flat_get {α β : Type} (f : α → List β) (k : Nat) (hf : ∀ x, (f x).length = k) : ∀ (L : List α) (i j : Nat), j < k → (L.flatMap f)[i * k + j]? = (L[i]?).bind fun x => (f x)[j]? := by
  intro L
  induction L with
  | nil => intro i j _; simp
  | cons x r ih =>
    intro i j hj
    rw [List.flatMap_cons]
    cases i with
    | zero =>
      rw [Nat.zero_mul, Nat.zero_add, List.getElem?_append_left (by rw [hf]; exact hj)]
      simp
    | succ i =>
      rw [List.getElem?_append_right (by rw [hf, Nat.succ_mul]; omega), hf, show (i + 1) * k + j - k = i * k + j by rw [Nat.succ_mul]; omega, ih i j hj]
      simp

theorem flat_len {α β : Type} (f : α → List β) (k : Nat) (hf : ∀ x, (f x).length = k) : ∀ (L : List α), (L.flatMap f).length = L.length * k := by
  intro L
  induction L with
  | nil => simp
  | cons x r ih => rw [List.flatMap_cons, List.length_append, hf, ih, List.length_cons, Nat.succ_mul]; omega

abbrev lval (l : Lt) : Value := ltv l.sign.toNat l.shape l.size l.least l.most l.text l.fin.toNat
abbrev tval (l : Lt) (ps : Value) : Value := tyv l.sign.toNat l.shape l.size l.least l.most l.text l.fin.toNat ps
abbrev vval (v : V) (l : Value) : Value := vv v.n v.s l

/-- The eight cells of a type. -/
def tcell (p : Ty × Value) : List Value := [.int .u8 p.1.l.sign.toNat, .int .i64 p.1.l.shape, .int .i64 p.1.l.size, .int .i64 p.1.l.least, .int .i64 p.1.l.most, .bool p.1.l.text, .int .u8 p.1.l.fin.toNat, p.2]
/-- The three cells of a value. -/
def vcell (p : V × Value) : List Value := [.int .i64 p.1.n, .string p.1.s, p.2]

/-- A list of types lies in memory as the slice v; all its blocks are among S. -/
inductive TsAt (w : World) (S : Nat → Prop) : List Ty → Value → Prop
  | nil (a : Option Addr) (c : Nat) : TsAt w S [] (.slice a 0 c)
  | row (ps : List (Ty × Value)) (g cap : Nat) (h0 : ps ≠ []) (hcap : ps.length ≤ cap) (hS : S g)
      (hc : ∀ j u, (ps.flatMap tcell)[j]? = some u → w.cell? ⟨g, j, none⟩ = some u)
      (hr : ∀ p, p ∈ ps → TsAt w S p.1.ps p.2) : TsAt w S (ps.map Prod.fst) (.slice (some ⟨g, 0, none⟩) ps.length cap)

inductive VsAt (w : World) (S : Nat → Prop) : List V → Value → Prop
  | nil (a : Option Addr) (c : Nat) : VsAt w S [] (.slice a 0 c)
  | row (ps : List (V × Value)) (g cap : Nat) (h0 : ps ≠ []) (hcap : ps.length ≤ cap) (hS : S g)
      (hc : ∀ j u, (ps.flatMap vcell)[j]? = some u → w.cell? ⟨g, j, none⟩ = some u)
      (hr : ∀ p, p ∈ ps → VsAt w S p.1.l p.2) : VsAt w S (ps.map Prod.fst) (.slice (some ⟨g, 0, none⟩) ps.length cap)

theorem TsAt.congr {w w' : World} {S S' : Nat → Prop} (hSS : ∀ b, S b → S' b) (hw : ∀ b, S b → w'.heap[b]? = w.heap[b]?) {ts : List Ty} {v : Value} (h : TsAt w S ts v) : TsAt w' S' ts v := by
  induction h with
  | nil a c => exact .nil a c
  | row ps g cap h0 hcap hS hc hr ih =>
    exact .row ps g cap h0 hcap (hSS g hS) (fun j u hu => by rw [World.cell?_of_block (w := w) (a := ⟨g, j, none⟩) (hw g hS)]; exact hc j u hu) (fun p hp => ih p hp)

theorem VsAt.congr {w w' : World} {S S' : Nat → Prop} (hSS : ∀ b, S b → S' b) (hw : ∀ b, S b → w'.heap[b]? = w.heap[b]?) {ts : List V} {v : Value} (h : VsAt w S ts v) : VsAt w' S' ts v := by
  induction h with
  | nil a c => exact .nil a c
  | row ps g cap h0 hcap hS hc hr ih =>
    exact .row ps g cap h0 hcap (hSS g hS) (fun j u hu => by rw [World.cell?_of_block (w := w) (a := ⟨g, j, none⟩) (hw g hS)]; exact hc j u hu) (fun p hp => ih p hp)

theorem TsAt.shape {w : World} {S : Nat → Prop} {ts : List Ty} {v : Value} (h : TsAt w S ts v) : ∃ a c, v = .slice a ts.length c := by
  cases h with
  | nil => exact ⟨_, _, rfl⟩
  | row ps g cap => exact ⟨_, _, by rw [List.length_map]⟩

theorem VsAt.shape {w : World} {S : Nat → Prop} {ts : List V} {v : Value} (h : VsAt w S ts v) : ∃ a c, v = .slice a ts.length c := by
  cases h with
  | nil => exact ⟨_, _, rfl⟩
  | row ps g cap => exact ⟨_, _, by rw [List.length_map]⟩

theorem tcell_len (p : Ty × Value) : (tcell p).length = 8 := rfl
theorem vcell_len (p : V × Value) : (vcell p).length = 3 := rfl

/-- An element: where it lies, its cells, its own parts. -/
theorem TsAt.at {w : World} {S : Nat → Prop} {ts : List Ty} {v : Value} (h : TsAt w S ts v) (i : Nat) (hi : i < ts.length) :
    ∃ g cap x, v = .slice (some ⟨g, 0, none⟩) ts.length cap ∧ ts.length ≤ cap ∧ S g ∧ TsAt w S ts[i].ps x ∧ ∀ j u, (tcell (ts[i], x))[j]? = some u → w.cell? ⟨g, i * 8 + j, none⟩ = some u := by
  cases h with
  | nil => simp at hi
  | row ps g cap h0 hcap hS hc hr =>
    have hi' : i < ps.length := by simpa using hi
    refine ⟨g, cap, ps[i].2, by rw [List.length_map], by rw [List.length_map]; exact hcap, hS, ?_, fun j u hu => ?_⟩
    · rw [List.getElem_map]; exact hr _ (List.getElem_mem hi')
    · refine hc _ u ?_
      have hj : j < 8 := by
        have := (List.getElem?_eq_some_iff.1 hu).1
        rwa [tcell_len] at this
      rw [flat_get tcell 8 tcell_len ps i j hj, List.getElem?_eq_getElem hi', Option.bind_some]
      rw [List.getElem_map] at hu
      exact hu

theorem VsAt.at {w : World} {S : Nat → Prop} {ts : List V} {v : Value} (h : VsAt w S ts v) (i : Nat) (hi : i < ts.length) :
    ∃ g cap x, v = .slice (some ⟨g, 0, none⟩) ts.length cap ∧ ts.length ≤ cap ∧ S g ∧ VsAt w S ts[i].l x ∧ ∀ j u, (vcell (ts[i], x))[j]? = some u → w.cell? ⟨g, i * 3 + j, none⟩ = some u := by
  cases h with
  | nil => simp at hi
  | row ps g cap h0 hcap hS hc hr =>
    have hi' : i < ps.length := by simpa using hi
    refine ⟨g, cap, ps[i].2, by rw [List.length_map], by rw [List.length_map]; exact hcap, hS, ?_, fun j u hu => ?_⟩
    · rw [List.getElem_map]; exact hr _ (List.getElem_mem hi')
    · refine hc _ u ?_
      have hj : j < 3 := by
        have := (List.getElem?_eq_some_iff.1 hu).1
        rwa [vcell_len] at this
      rw [flat_get vcell 3 vcell_len ps i j hj, List.getElem?_eq_getElem hi', Option.bind_some]
      rw [List.getElem_map] at hu
      exact hu

/-- What a call has built by append is a list of types in memory. -/
theorem TsAt.of_own {w : World} {S : Nat → Prop} {base : Nat} {v : Value} {ps : List (Ty × Value)} (h : w.ownsRow base 62 8 v ps.length (ps.flatMap tcell)) (hr : ∀ p, p ∈ ps → TsAt w S p.1.ps p.2) (hS : ∀ g, v.ownBlock = some g → S g) : TsAt w S (ps.map Prod.fst) v := by
  rcases h.2 with ⟨rfl, h0⟩ | ⟨g, cap, cur, rfl, hb, hg, hn, _, hs, ht⟩
  · rw [List.length_eq_zero_iff.1 h0]; exact .nil _ _
  · by_cases h0 : ps = []
    · subst h0
      exact .nil _ _
    · refine .row ps g cap h0 hn (hS g rfl) (fun j u hu => ?_) hr
      have := h.cells (g := g) rfl j u hu
      rwa [Addr.add_lit, Nat.zero_add] at this

theorem VsAt.of_own {w : World} {S : Nat → Prop} {base : Nat} {v : Value} {ps : List (V × Value)} (h : w.ownsRow base 31 3 v ps.length (ps.flatMap vcell)) (hr : ∀ p, p ∈ ps → VsAt w S p.1.l p.2) (hS : ∀ g, v.ownBlock = some g → S g) : VsAt w S (ps.map Prod.fst) v := by
  rcases h.2 with ⟨rfl, h0⟩ | ⟨g, cap, cur, rfl, hb, hg, hn, _, hs, ht⟩
  · rw [List.length_eq_zero_iff.1 h0]; exact .nil _ _
  · by_cases h0 : ps = []
    · subst h0
      exact .nil _ _
    · refine .row ps g cap h0 hn (hS g rfl) (fun j u hu => ?_) hr
      have := h.cells (g := g) rfl j u hu
      rwa [Addr.add_lit, Nat.zero_add] at this

set_option maxHeartbeats 400000 in
theorem part_vec (w : World) (S : Nat → Prop) (t : Ty) (psv : Value) (h : TsAt w S t.ps psv) (hS : ∀ b, S b → b < w.heap.size) (i : Int) (hsh : t.l.shape = 2) (h0 : 0 < t.ps.length) :
    Calls Tryd.prog 48 #[tval t.l psv, .int .i64 i] w fun e w' => ∃ x, e = .returned (tval (t.ps[0]).l x) ∧ TsAt w S (t.ps[0]).ps x ∧ Below w.heap.size w w' := by
  obtain ⟨g, cap, x, rfl, hcap, hg, hx, hc⟩ := h.at 0 h0
  obtain ⟨xa, xc, rfl⟩ := hx.shape
  have hgl := hS g hg
  have c0 := hc 0 _ rfl
  have c1 := hc 1 _ rfl
  have c2 := hc 2 _ rfl
  have c3 := hc 3 _ rfl
  have c4 := hc 4 _ rfl
  have c5 := hc 5 _ rfl
  have c6 := hc 6 _ rfl
  have c7 := hc 7 _ rfl
  generalize t.ps[0] = p at *
  have HX : Hid (TsAt w S p.ps (.slice xa p.ps.length xc)) := hx
  clear hc hx hS h hg
  simp only [tval, tyv, hsh]
  have h0z : (0 : Int) < (t.ps.length : Int) := by omega
  generalize t.ps.length = k at *
  generalize hk : p.ps.length = m at *
  clear hk
  go_enter Tryd.func48, Tryd.ntmps48
  go_wp2
  exact bodyPost_ret (v := tval p.l (.slice xa m xc)) (by simp [results, Tryd.results48, go_sem]) rfl ⟨_, rfl, HX.out, below2 _ _ _⟩

set_option maxHeartbeats 400000 in
theorem part_rec (w : World) (S : Nat → Prop) (t : Ty) (psv : Value) (h : TsAt w S t.ps psv) (hS : ∀ b, S b → b < w.heap.size) (i : Nat) (hsh : t.l.shape = 3) (h0 : i < t.ps.length) (_hb : t.ps.length ≤ 1000) :
    Calls Tryd.prog 48 #[tval t.l psv, .int .i64 i] w fun e w' => ∃ x, e = .returned (tval (t.ps[i]).l x) ∧ TsAt w S (t.ps[i]).ps x ∧ Below w.heap.size w w' := by
  obtain ⟨g, cap, x, rfl, hcap, hg, hx, hc⟩ := h.at i h0
  obtain ⟨xa, xc, rfl⟩ := hx.shape
  have hgl := hS g hg
  have c0 : w.cell? ⟨g, i * 8, none⟩ = _ := hc 0 _ rfl
  have c1 := hc 1 _ rfl
  have c2 := hc 2 _ rfl
  have c3 := hc 3 _ rfl
  have c4 := hc 4 _ rfl
  have c5 := hc 5 _ rfl
  have c6 := hc 6 _ rfl
  have c7 := hc 7 _ rfl
  generalize t.ps[i] = p at *
  have HX : Hid (TsAt w S p.ps (.slice xa p.ps.length xc)) := hx
  clear hc hx hS h hg
  simp only [tval, tyv, hsh]
  have h0z : (i : Int) < (t.ps.length : Int) := by omega
  generalize t.ps.length = k at *
  generalize hk : p.ps.length = m at *
  clear hk
  go_enter Tryd.func48, Tryd.ntmps48
  go_wp2
  exact bodyPost_ret (v := tval p.l (.slice xa m xc)) (by simp [results, Tryd.results48, go_sem]) rfl ⟨_, rfl, HX.out, below2 _ _ _⟩

/-- Types as a schema gives them, of so many brackets. -/
def okT : Nat → Ty → Prop
  | 0, _ => False
  | k + 1, t => t.l ∈ letters ∧ (t.l.shape = 2 → t.ps.length = 1) ∧ t.ps.length ≤ 64 ∧ ∀ p, p ∈ t.ps → okT k p

theorem letters_shape {l : Lt} (h : l ∈ letters) : l.shape = 0 ∨ l.shape = 1 ∨ l.shape = 2 ∨ l.shape = 3 := by
  simp only [letters, List.mem_cons, List.mem_nil_iff, or_false] at h
  rcases h with rfl | rfl | rfl | rfl | rfl | rfl | rfl <;> simp
theorem letters_size {l : Lt} (h : l ∈ letters) (h0 : l.shape = 0) : l.size = 1 ∨ l.size = 4 ∨ l.size = 8 := by
  simp only [letters, List.mem_cons, List.mem_nil_iff, or_false] at h
  rcases h with rfl | rfl | rfl | rfl | rfl | rfl | rfl <;> simp at h0 ⊢

theorem getD_lt {α : Type} (l : List α) (i : Nat) (d : α) (h : i < l.length) : l.getD i d = l[i] := by
  rw [List.getD_eq_getElem?_getD, List.getElem?_eq_getElem h]; rfl

theorem part_ok {k : Nat} {t : Ty} (h : okT (k + 1) t) (i : Nat) (h23 : t.l.shape = 2 ∨ t.l.shape = 3 ∧ i < t.ps.length) : okT k (Orch.part t i) := by
  obtain ⟨_, h2, _, hp⟩ := h
  unfold Orch.part
  rcases h23 with h' | ⟨h', hi⟩
  · have := h2 h'
    rw [if_pos h', getD_lt _ _ _ (by omega)]
    exact hp _ (List.getElem_mem _)
  · rw [if_neg (by omega), getD_lt _ _ _ hi]
    exact hp _ (List.getElem_mem _)

/-- part, of a vector or a record. -/
theorem part_any (w : World) (S : Nat → Prop) {k : Nat} (t : Ty) (hok : okT (k + 1) t) (psv : Value) (h : TsAt w S t.ps psv) (hS : ∀ b, S b → b < w.heap.size) (i : Nat) (h23 : t.l.shape = 2 ∨ t.l.shape = 3 ∧ i < t.ps.length) :
    Calls Tryd.prog 48 #[tval t.l psv, .int .i64 i] w fun e w' => ∃ x, e = .returned (tval (Orch.part t i).l x) ∧ TsAt w S (Orch.part t i).ps x ∧ Below w.heap.size w w' := by
  obtain ⟨_, h2, hb, _⟩ := hok
  unfold Orch.part
  rcases h23 with h' | ⟨h', hi⟩
  · have := h2 h'
    rw [if_pos h', getD_lt _ _ _ (by omega)]
    exact part_vec w S t psv h hS i h' (by omega)
  · rw [if_neg (by omega), getD_lt _ _ _ hi]
    exact part_rec w S t psv h hS i h' hi (by omega)

end Go.Proofs.YtbnoghkijgmcgaaDoor
