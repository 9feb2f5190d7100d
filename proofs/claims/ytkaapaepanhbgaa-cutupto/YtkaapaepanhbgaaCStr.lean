/- Strings: conversions, append of a string's bytes. -/
import Derived.Test.YtkaapaepanhbgaaCRun
import Derived.Deep.AppendSrc
import Derived.Lib.ConvBytes
set_option linter.unusedVariables false
set_option linter.unusedSimpArgs false
namespace Go.Proofs.Ytkaapaepanhbgaa
open Go Go.Conc Go.Pair Go.RowKit

theorem un9 : Try.prog.underlying 9 = some .string := by first | rfl | kernel_rfl | decide +kernel
theorem un22 : Try.prog.underlying 22 = some (.slice 9) := by first | rfl | kernel_rfl | decide +kernel
theorem un5 : Try.prog.underlying 5 = some (.int .u8) := by first | rfl | kernel_rfl | decide +kernel
theorem info9 : ∃ i, Try.prog.info? 9 = some i ∧ i.zero = some (.string ⟨#[]⟩) ∧ i.size = 1 ∧ i.bytes = 16 := ⟨_, rfl, rfl, rfl, rfl⟩
/-- A text's bytes. -/
def sb (s : ByteArray) : List UInt8 := s.data.toList
theorem byteCells_bc (s : ByteArray) : byteCells s = bc (sb s) := rfl
theorem sb_len (s : ByteArray) : (sb s).length = s.size := by unfold sb; rw [Array.length_toList]; rfl

section
variable {Shun : Loc → Prop} {w w0 w' w₁ : World} {xs : List Value} {v y : Value}

theorem conv_run (w : World) (s : ByteArray) : (convert 9 25 (.string s)).run Try.prog w = .ok (.slice (some ⟨w.heap.size, 0, none⟩) s.size (grownCap w s.size 0 5)) (Lib.bytesWorld w 5 s) := Lib.run_convert_string_bytes w 9 25 5 s un9 un25 un5
theorem conv_ev (w : World) (s : ByteArray) (es : Array Event) : (convert 9 25 (.string s)).events Try.prog w es = es := by
  have hsh : ∀ c : Array Value, (w.drew.alloc (.cells c 5)).shape? w.heap.size = some (5, c.size) := by
    intro c
    simp [World.shape?, World.alloc, World.drew, -World.alloc_eq, -World.drew_eq]
  simp [convert, go_sem, run_underlying un9, run_underlying un25, run_underlying un5, Conv.stringToBytes, newRow, markStringish, Question.forced, hsh, Result.evThen, Result.andThen]
  split <;> simp
theorem conv_read (w : World) (s : ByteArray) : ReadRow (Lib.bytesWorld w 5 s) 5 (bc (sb s)) (.slice (some ⟨w.heap.size, 0, none⟩) s.size (grownCap w s.size 0 5)) := by
  refine .inr ⟨⟨w.heap.size, 0, none⟩, _, _, by rw [bc_len, sb_len], fun j u hu => ?_, Lib.bytesWorld_at_new w 5 s, rfl⟩
  have hj : j < (sb s).length := by have := (List.getElem?_eq_some_iff.1 hu).1; simpa [bc] using this
  rw [bc_get (sb s) j hj] at hu
  rw [Addr.add_lit, Nat.zero_add, Lib.bytesWorld_cell w 5 s j (by rw [← sb_len]; exact hj), ← hu]
  have : s.data.toList.getD j 0 = (sb s)[j] := by unfold sb at *; rw [List.getD_eq_getElem?_getD, List.getElem?_eq_getElem hj]; rfl
  rw [this]

theorem grown_S {news : List Value} {old : Nat} (hx : RowIs w 5 xs v) (hbig : xs.length + news.length ≤ maxLen) :
    AppS w 5 v (xs ++ news) (.slice (some ⟨w.heap.size, 0, none⟩) (xs.length + news.length) (grownCap w (xs.length + news.length) old 5)) (w.drew.alloc (.cells ((xs ++ news).toArray ++ Builtin.zeroCells (Value.int .u8 0).cells (grownCap w (xs.length + news.length) old 5 - (xs.length + news.length))) 5)) := by
  have hge := grownCap_ge w (xs.length + news.length) old 5
  have hle := grownCap_le_maxLen w (xs.length + news.length) old 5 hbig
  have hh : (w.drew.alloc (.cells ((xs ++ news).toArray ++ Builtin.zeroCells (Value.int .u8 0).cells (grownCap w (xs.length + news.length) old 5 - (xs.length + news.length))) 5)).heap = w.heap.push (.cells ((xs ++ news) ++ (Builtin.zeroCells (Value.int .u8 0).cells (grownCap w (xs.length + news.length) old 5 - (xs.length + news.length))).toList).toArray 5) := by
    show w.heap.push _ = _
    rw [app_arr']
  have hZ : (Builtin.zeroCells (Value.int .u8 0).cells (grownCap w (xs.length + news.length) old 5 - (xs.length + news.length))).toList.length = grownCap w (xs.length + news.length) old 5 - (xs.length + news.length) := by
    rw [Array.length_toList, size_zeroCells]
    show _ * 1 = _
    omega
  have hrow := RowIs.new (xs := xs ++ news) (w' := w.drew.alloc (.cells ((xs ++ news).toArray ++ Builtin.zeroCells (Value.int .u8 0).cells (grownCap w (xs.length + news.length) old 5 - (xs.length + news.length))) 5)) (g := w.heap.size) (e := 5) (c := grownCap w (xs.length + news.length) old 5) (by rw [hh, Array.getElem?_push, if_pos rfl]) (by rw [List.length_append, hZ]; omega) hle
  rw [List.length_append] at hrow
  have oldk : ∀ i, i < w.heap.size → (w.drew.alloc (.cells ((xs ++ news).toArray ++ Builtin.zeroCells (Value.int .u8 0).cells (grownCap w (xs.length + news.length) old 5 - (xs.length + news.length))) 5)).heap[i]? = w.heap[i]? := fun i hi => by rw [hh, Array.getElem?_push, if_neg (by omega)]
  refine ⟨hrow, by rw [hh, Array.size_push]; omega, fun i hi _ => oldk i hi, fun g hg => by simp [Value.ownBlock] at hg; right; omega, fun i hi => ?_⟩
  obtain ⟨c, cells, _, h⟩ := hx.own hi
  exact ⟨cells, by rw [oldk i (lt_of_get h)]; exact h⟩

theorem append_str {s : ByteArray} (hx : RowIs w 5 xs v) (hns : ∀ (a : Addr) (o : Obj), w.heap[a.block]? = some o → kindOf o = some 5 → ¬ Shun (.cell a)) (hbig : xs.length + s.size ≤ 4294967296) :
    ∃ v' w', (Builtin.append_ #[25, 9] 25 #[v, .string s]).run Try.prog w = .ok v' w' ∧ AppS w 5 v (xs ++ bc (sb s)) v' w' ∧ ∀ es : Array Event, (∀ ev ∈ es, ev ∈ (Builtin.append_ #[25, 9] 25 #[v, .string s]).events Try.prog w #[]) → DS Shun w w' es := by
  obtain ⟨i, hi, hz, hz1, hz2⟩ := info5
  have hsrc := Src.ofString (P := Try.prog) w un9 s
  rw [byteCells_bc] at hsrc
  have hone : ∀ u ∈ bc (sb s), u.oneCell' = true := bc_one _
  have hnl : (bc (sb s)).length = s.size := by rw [bc_len, sb_len]
  have fc : ∀ (w' : World) (es : Array Event), (Builtin.firstCells 1 s.size (.string s)).events Try.prog w' es = es := fun w' es => by simp [Builtin.firstCells]
  have hlow : ∀ (q : Nat) (cells : Array Value), w.heap[q]? = some (.cells cells 5) → ∀ (w' : World), w.heap.size ≤ w'.heap.size → ∀ (ad : Addr) (wr : Bool), ad.block = q → EvL Shun w'.heap.size ⟨.cell ad, wr, false⟩ := fun q cells hc w' hsz ad wr e => evL_cell (hns ad _ (by rw [e]; exact hc) rfl) (by rw [e]; exact Nat.lt_of_lt_of_le (lt_of_get hc) hsz)
  rcases hx with ⟨rfl, rfl⟩ | ⟨q, c, cells, rfl, h2, h3, h4, h5, h6⟩
  · by_cases hs : s.size = 0
    · have hsb : bc (sb s) = [] := List.length_eq_zero_iff.1 (by rw [hnl]; exact hs)
      have hrun : (Builtin.append_ #[25, 9] 25 #[.slice none 0 0, .string s]).run Try.prog w = .ok (.slice none 0 0) w ∧ (Builtin.append_ #[25, 9] 25 #[.slice none 0 0, .string s]).events Try.prog w #[] = #[] := by
        constructor <;> simp [Builtin.append_, run_underlying un25, run_underlying un9, sizeOf, typeInfo, hi, Builtin.lenOf, Builtin.firstCells, hs]
      refine ⟨_, _, hrun.1, by rw [hsb]; exact AppS.refl (.inl ⟨rfl, rfl⟩), fun es hes => ⟨Nat.le_refl _, fun ev hev => ?_, rfl, rfl⟩⟩
      have := hes ev hev
      rw [hrun.2] at this
      simp at this
    · have hg0 : Builtin.nextslicecap s.size 0 * i.bytes ≤ 281474976710656 := growslice_fits (by omega) (by rw [hz2]; omega)
      have hr := run_append_grow_src (P := Try.prog) w 25 9 25 5 i (.int .u8 0) un25 hi hz none 0 0 [] (run_firstCells_none w.drew i.size 0 0 0) (.string s) s.size (bc (sb s)) (hz1 ▸ hsrc) (by omega) (by omega) (by simpa using hg0)
      have hA := grown_S (w := w) (v := .slice none 0 0) (xs := []) (news := bc (sb s)) (old := 0) (.inl ⟨rfl, rfl⟩) (by rw [hnl]; simp only [List.length_nil, maxLen]; omega)
      simp only [List.length_nil, Nat.zero_add, List.nil_append, hnl] at hr hA ⊢
      refine ⟨_, _, hr, hA, fun es hes => ⟨hA.size, fun ev hev => ?_, rfl, rfl⟩⟩
      have hev := hes ev hev
      have h63' : ¬ (9223372036854775807 < (s.size : Int)) := by omega
      have h48' : ¬ (281474976710656 < Builtin.nextslicecap s.size 0 * i.bytes) := by omega
      have hf := firstCells_string (P := Try.prog) s w.drew
      simp [Builtin.append_, run_underlying un25, run_underlying un9, sizeOf, typeInfo, zeroValue, hi, hz, hz1, Builtin.lenOf, hs, h63', h48', Question.forced, run_firstCells_none, hf, newRow, fc] at hev
      rcases events_firstCells_in (fun _ => False) _ _ _ _ _ (by intro _ _ _ e; cases e) ev hev with h | ⟨_, _, _, h⟩
      · rcases Conc.events_askRoom _ _ _ ev h with h | ⟨m, h, hm⟩
        · simp at h
        · rw [h]; exact evL_mark hm
      · exact h.elim
  · have hrow := (RowIs.row (.inr ⟨q, c, cells, rfl, h2, h3, h4, h5, h6⟩ : RowIs w 5 xs _))
    have hx : RowIs w 5 xs (.slice (some ⟨q, 0, none⟩) xs.length c) := .inr ⟨q, c, cells, rfl, h2, h3, h4, h5, h6⟩
    have holds : ∀ (j : Nat) (u : Value), xs[j]? = some u → w.cell? ((⟨q, 0, none⟩ : Addr).add j) = some u := hrow.cells (g := q) rfl
    by_cases hroom : xs.length + s.size ≤ c
    · have hfit : xs.length * i.size + (bc (sb s)).length ≤ cells.size := by rw [hnl, hz1]; omega
      have hr := run_append_room_src (P := Try.prog) w 25 9 25 5 i un25 hi q 0 xs.length c (.string s) s.size (bc (sb s)) (hz1 ▸ hsrc) hroom (fun j hj => by simp only [World.cell?, h3]; rw [hnl] at hj; simp [hz1]; omega) (fun j hj => by simp [World.frozen?, h3])
      rw [hz1, Nat.mul_one, Nat.zero_add] at hr
      obtain ⟨cells', g1, g2, g3, g4⟩ := setCells_row q 5 (0, 0) (bc (sb s)) xs.length w cells h3 (by rw [hnl]; omega)
      have hsz := setCells_size q (bc (sb s)) xs.length w
      have hA : AppS w 5 (.slice (some ⟨q, 0, none⟩) xs.length c) (xs ++ bc (sb s)) (.slice (some ⟨q, 0, none⟩) (xs.length + s.size) c) (w.setCells q xs.length (bc (sb s))) := by
        refine ⟨.inr ⟨q, c, cells', by rw [List.length_append, hnl], by rw [List.length_append, hnl]; exact hroom, g1, by rw [g2]; exact h4, fun j hj => ?_, h6⟩, by rw [hsz]; exact Nat.le_refl _, fun k _ hv => setCells_other (fun e => hv (by rw [e]; rfl)) _ _ _, fun g hg => .inl hg, fun k hk => ?_⟩
        · rw [List.length_append] at hj
          by_cases hjx : j < xs.length
          · rw [g4 j (.inl hjx), h5 j hjx, List.getElem_append_left hjx]
          · have h7 := g3 (j - xs.length) (by omega)
            rw [show xs.length + (j - xs.length) = j by omega] at h7
            rw [h7, List.getElem_append_right (by omega)]
        · simp [Value.ownBlock] at hk
          subst hk
          exact ⟨cells', g1⟩
      refine ⟨_, _, hr, hA, fun es hes => ⟨hA.size, fun ev hev => ?_, (setCells_rest q (bc (sb s)) xs.length w).2⟩⟩
      have hev := hes ev hev
      have hf := firstCells_string (P := Try.prog) s w
      simp [Builtin.append_, run_underlying un25, run_underlying un9, sizeOf, typeInfo, hi, hz1, Builtin.lenOf, hroom, hf, Addr.add_lit, fc] at hev
      rcases events_storeCells_at (P := Try.prog) q xs.length 5 (byteCells s) 0 cells w _ h3 (by rw [byteCells_bc, hnl]; omega) (by rw [byteCells_bc]; exact hone) ev hev with h | ⟨ad, h7, h8⟩
      · simp at h
      · rcases Flat.storeCells _ _ _ _ _ ev hev with h9 | h9
        · simp at h9
        · rw [flat_cell h9 h7]
          exact hlow q cells h3 _ hA.size ad _ h8
    · have hn : ¬ (xs.length + s.size ≤ c) := hroom
      have hfit := growslice_fits (need := xs.length + s.size) (old := c) (bytes := i.bytes) (by omega) (by rw [hz2]; omega)
      have hfo := run_firstCells_some (P := Try.prog) w.drew i.size xs.length ⟨q, 0, none⟩ xs.length c xs (by rw [hz1]; omega) (by simpa using holds)
      have hr := run_append_grow_src (P := Try.prog) w 25 9 25 5 i (.int .u8 0) un25 hi hz (some ⟨q, 0, none⟩) xs.length c xs hfo (.string s) s.size (bc (sb s)) (hz1 ▸ hsrc) (by omega) (by omega) hfit
      have hA := grown_S (w := w) (v := .slice (some ⟨q, 0, none⟩) xs.length c) (xs := xs) (news := bc (sb s)) (old := c) hx (by rw [hnl]; simp only [maxLen]; omega)
      simp only [hnl] at hA
      refine ⟨_, _, hr, hA, fun es hes => ⟨hA.size, fun ev hev => ?_, rfl, rfl⟩⟩
      have hev := hes ev hev
      have h63' : ¬ (9223372036854775807 < ((xs.length : Int) + (s.size : Int))) := by omega
      have h48' : ¬ (281474976710656 < Builtin.nextslicecap (xs.length + s.size) c * i.bytes) := by omega
      have hf := firstCells_string (P := Try.prog) s w.drew
      rw [hz1] at hfo
      simp [Builtin.append_, run_underlying un25, run_underlying un9, sizeOf, typeInfo, zeroValue, hi, hz, hz1, Builtin.lenOf, hn, h63', h48', Question.forced, hf, hfo, newRow, fc] at hev
      rcases events_firstCells_in (fun g => g = q) _ _ _ _ _ (by intro a' l' c' e; cases e; exact ⟨rfl, fun j hj => by have := isSome_of_list holds (j := j) (by omega); simpa using this⟩) ev hev with h | ⟨ad, h7, h8, h9⟩
      · rcases Conc.events_askRoom _ _ _ ev h with h | ⟨m, h, hm⟩
        · simp at h
        · rw [h]; exact evL_mark hm
      · rcases Flat.firstCells _ _ _ _ _ ev hev with h10 | h10
        · rcases Conc.events_askRoom _ _ _ ev h10 with h | ⟨m, h, hm⟩
          · simp at h
          · rw [h]; exact evL_mark hm
        · rw [flat_cell h10 h7]
          exact hlow q cells h3 _ hA.size ad _ h9
end
end Go.Proofs.Ytkaapaepanhbgaa
