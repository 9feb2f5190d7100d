/- parseType, Parse. -/
import Derived.Test.YtbnoghkijgmcgaaDoorParseP
set_option linter.unusedVariables false
namespace Go.Proofs.YtbnoghkijgmcgaaDoor
open Go.RowKit

/-- No text, or too many brackets. -/
theorem pt_stop (w : World) (s : ByteArray) (d : Int) (h : s.size = 0 ∨ 8 < d) :
    Calls Tryd.prog 31 #[.string s, .int .i64 d] w fun e w' => noType e ∧ Below w.heap.size w w' := by
  by_cases h0 : s.size = 0
  · have hnil : s.toList = [] := (toList_nil s).2 h0
    go_enter Tryd.func31, Tryd.ntmps31
    go_wp2
    exact bodyPost_ret (v := .tuple #[tyv 0 0 0 0 0 false 0 (.slice none 0 0), .string ⟨#[]⟩, .bool false]) (by simp [results, Tryd.results31, go_sem]) rfl ⟨⟨_, _, _, _, _, _, _, _, _, _, _, rfl⟩, below1 _ _⟩
  · have hne : ¬ s.toList = [] := fun h => h0 ((toList_nil s).1 h)
    have h8 : 8 < d := by omega
    have hnB : (s.toList == []) = false := by simpa using hne
    go_enter Tryd.func31, Tryd.ntmps31
    go_wp2
    exact bodyPost_ret (v := .tuple #[tyv 0 0 0 0 0 false 0 (.slice none 0 0), .string ⟨#[]⟩, .bool false]) (by simp [results, Tryd.results31, go_sem]) rfl ⟨⟨_, _, _, _, _, _, _, _, _, _, _, rfl⟩, below1 _ _⟩

theorem pt_zero : PtSaid 0 := by
  intro w s d hT hs hd
  exact pt_stop w s d (Or.inr (by omega))

/-- The cells of no type. -/
abbrev zT : Array Value := #[.int .u8 0, .int .i64 0, .int .i64 0, .int .i64 0, .int .i64 0, .bool false, .int .u8 0, .slice none 0 0]

set_option maxRecDepth 8000 in
set_option maxHeartbeats 1000000 in
theorem pt_nofind (w : World) (s : ByteArray) (d : Int) (hT : Table w) (hpn : 0 < s.size) (hd : d ≤ 8) (h : Orch.find s[0] = none) :
    Calls Tryd.prog 31 #[.string s, .int .i64 d] w fun e w' => noType e ∧ Below w.heap.size w w' := by
  have hne : ¬ s.toList = [] := fun h => by have := (toList_nil s).1 h; omega
  have hnB : (s.toList == []) = false := by simpa using hne
  have hpz : (0 : Int) < (s.size : Int) := by omega
  have HT1 : Hid (Table (w.alloc (.cells #[.int .u8 0, .int .i64 0, .int .i64 0, .int .i64 0, .int .i64 0, .bool false, .int .u8 0, .slice none 0 0] 62))) := hT.below (below1 _ _) hT.pos
  have HF := findLetter_any (w.alloc (.cells #[.int .u8 0, .int .i64 0, .int .i64 0, .int .i64 0, .int .i64 0, .bool false, .int .u8 0, .slice none 0 0] 62)) HT1.out s[0]
  unfold findEnd at HF
  rw [h] at HF
  obtain ⟨x0, hx0⟩ : ∃ x0, s[0] = x0 := ⟨_, rfl⟩
  rw [hx0] at HF
  have HFF := hide HF
  clear HF h hT
  have N0 := hide (heap_alloc_new w (.cells #[.int .u8 0, .int .i64 0, .int .i64 0, .int .i64 0, .int .i64 0, .bool false, .int .u8 0, .slice none 0 0] 62))
  go_enter Tryd.func31, Tryd.ntmps31
  go_wp2_with (first
    | (refine wpList_store_row rfl 62 _ _ rfl w.heap.size #[.int .u8 0, .int .i64 0, .int .i64 0, .int .i64 0, .int .i64 0, .bool false, .int .u8 0, .slice none 0 0] rfl rfl 62 _ HH2.out Tryd.size62 rfl (one_ty _ _ _ _ _ _ _ _ _ _) ?_)
    | (go_at_call 45; refine HFF.out.mono ?_; rintro e w1 ⟨rfl, hb1⟩; have HB1 : Hid (Below w.heap.size w w1) := (below1 _ _).trans (hb1.mono (by simp)); have HH : Hid (w1.heap[w.heap.size]? = some (.cells #[.int .u8 0, .int .i64 0, .int .i64 0, .int .i64 0, .int .i64 0, .bool false, .int .u8 0, .slice none 0 0] 62)) := (hb1.block _ (ltOf N0.out)).trans N0.out; have HH2 : Hid ((w1.alloc (.cells #[.int .u8 0, .int .i64 0, .int .i64 0, .int .i64 0, .int .i64 0, .bool false, .int .u8 0] 59)).heap[w.heap.size]? = some (.cells #[.int .u8 0, .int .i64 0, .int .i64 0, .int .i64 0, .int .i64 0, .bool false, .int .u8 0, .slice none 0 0] 62)) := (Below.heap_alloc _ _ _ (ltOf HH.out)).trans HH.out; clear hb1))
  have HQ := setRow_heap _ _ _ #[.int .u8 0, .int .i64 0, .int .i64 0, .int .i64 0, .int .i64 0, .bool false, .int .u8 0, .slice none 0 0] _ _ HH2.out
  have c0 := cellOf (j := 0) HQ rfl
  have c1 := cellOf (j := 1) HQ rfl
  have c2 := cellOf (j := 2) HQ rfl
  have c3 := cellOf (j := 3) HQ rfl
  have c4 := cellOf (j := 4) HQ rfl
  have c5 := cellOf (j := 5) HQ rfl
  have c6 := cellOf (j := 6) HQ rfl
  have c7 := cellOf (j := 7) HQ rfl
  exact bodyPost_ret (v := .tuple #[tyv 0 0 0 0 0 false 0 (.slice none 0 0), .string ⟨#[]⟩, .bool false]) (by simp [results, Tryd.results31, go_sem, c0, c1, c2, c3, c4, c5, c6, c7]) rfl ⟨⟨_, _, _, _, _, _, _, _, _, _, _, rfl⟩, below_setRow (HB1.out.alloc HB1.out.size _) (Nat.le_refl _) _⟩
end Go.Proofs.YtbnoghkijgmcgaaDoor
