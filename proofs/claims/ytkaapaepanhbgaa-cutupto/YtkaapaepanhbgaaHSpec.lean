/- Two goroutines that work, beside others that only leave: whoever is picked, the machine comes to the pair's end, if every step of either keeps an invariant and lowers its measure. -/
import Derived.Conc.Beside
import Derived.Conc.CrowdComm
import Derived.Conc.FxGenW
set_option linter.unusedVariables false
namespace Go.Pair
open Go Go.Conc
open Go.ConcN (sumTo upd sumTo_upd upd_ne upd_same)

/-- All but goroutine 0 and goroutine k only leave. -/
structure Others (P : Program) (t : Trace) (gs : Array Goroutine) (k : Nat) (q : Nat → Nat) : Prop where
  old : ∀ i g, 0 < i → i ≠ k → gs[i]? = some g → QuitsD P (q i) (Deaf t i) g
  above : ∀ j, gs.size ≤ j → Deaf t j = 0

/-- What a step of goroutine 0's may be: its own; a receive that waits, meets the sender, or finds the channel closed. -/
def StepA (P : Program) (k : Nat) (a b : Goroutine) (w : World) (t : Trace) (K : Goroutine → Goroutine → World → Trace → Prop) : Prop :=
  (∃ a' w' es, stepG P true a w = .go a' w' es ∧ K a' (woken P a a' w' b) w' (t ++ MemOp.ofEvents 0 a.frame.fn a.frame.place es)) ∨
  (∃ a₂ c z es s r tm, stepG P true a w = .comm a₂ #[rcase c z] true (.recv true) w es ∧ w.heap[c]? = some (.chan 0 #[] false s r tm) ∧ b.status ≠ .blocked ∧
    K (parked a₂ #[rcase c z] (.recv true)) b w (t ++ MemOp.ofEvents 0 a.frame.fn a.frame.place es)) ∨
  (∃ a₂ c z es s r tm b₂ v z', stepG P true a w = .comm a₂ #[rcase c z] true (.recv true) w es ∧ w.heap[c]? = some (.chan 0 #[] false s r tm) ∧ b = parked b₂ #[scase c v z'] .send ∧
    K (Conc.served a₂ (.tuple #[v, .bool true])) (Conc.served b₂ undef) (w.setChan c 0 #[] false (s + 1) (r + 1) tm) (t ++ (MemOp.ofEvents 0 a.frame.fn a.frame.place es ++
      #[{ g := k, fn := b₂.frame.fn, pos := b₂.frame.place, act := .send c s }, { g := 0, fn := a₂.frame.fn, pos := a₂.frame.place, act := .recv c r 0 },
        { g := k, fn := b₂.frame.fn, pos := b₂.frame.place, act := .sendDone c s }, { g := 0, fn := a₂.frame.fn, pos := a₂.frame.place, act := .recvDone c r }]))) ∨
  (∃ a₂ c z es s r tm, stepG P true a w = .comm a₂ #[rcase c z] true (.recv true) w es ∧ w.heap[c]? = some (.chan 0 #[] true s r tm) ∧ b.status ≠ .blocked ∧
    K (Conc.served a₂ (.tuple #[z, .bool false])) b w (t ++ (MemOp.ofEvents 0 a.frame.fn a.frame.place es ++ #[{ g := 0, fn := a₂.frame.fn, pos := a₂.frame.place, act := .recvClosed c }])))

/-- What a step of goroutine k's may be: its own; a send that waits or meets the receiver. -/
def StepB (P : Program) (k : Nat) (a b : Goroutine) (w : World) (t : Trace) (K : Goroutine → Goroutine → World → Trace → Prop) : Prop :=
  (∃ b' w' es, stepG P false b w = .go b' w' es ∧ K (woken P b b' w' a) b' w' (t ++ MemOp.ofEvents k b.frame.fn b.frame.place es)) ∨
  (∃ b₂ c v z es s r tm, stepG P false b w = .comm b₂ #[scase c v z] true .send w es ∧ w.heap[c]? = some (.chan 0 #[] false s r tm) ∧ a.status ≠ .blocked ∧
    K a (parked b₂ #[scase c v z] .send) w (t ++ MemOp.ofEvents k b.frame.fn b.frame.place es)) ∨
  (∃ b₂ c v z es s r tm a₂ z', stepG P false b w = .comm b₂ #[scase c v z] true .send w es ∧ w.heap[c]? = some (.chan 0 #[] false s r tm) ∧ a = parked a₂ #[rcase c z'] (.recv true) ∧
    K (Conc.served a₂ (.tuple #[v, .bool true])) (Conc.served b₂ undef) (w.setChan c 0 #[] false (s + 1) (r + 1) tm) (t ++ (MemOp.ofEvents k b.frame.fn b.frame.place es ++
      #[{ g := k, fn := b₂.frame.fn, pos := b₂.frame.place, act := .send c s }, { g := 0, fn := a₂.frame.fn, pos := a₂.frame.place, act := .recv c r 0 },
        { g := k, fn := b₂.frame.fn, pos := b₂.frame.place, act := .sendDone c s }, { g := 0, fn := a₂.frame.fn, pos := a₂.frame.place, act := .recvDone c r }])))

section
variable {P : Program} {k : Nat} {t : Trace} {gs : Array Goroutine} {q : Nat → Nat}

theorem Others.notBlocked (h : Others P t gs k q) {i : Nat} {g : Goroutine} (h0 : 0 < i) (hk : i ≠ k) (hi : gs[i]? = some g) : g.status ≠ .blocked := by
  intro e
  rcases (h.old i g h0 hk hi).status with x | x <;> rw [x] at e <;> cases e

/-- Behind operations of goroutines 0 and k the others are as they were. -/
theorem Others.app {u : Trace} {gs' : Array Goroutine} (hk : 0 < k) (h : Others P t gs k q) (hu : ∀ op ∈ u, op.g = 0 ∨ op.g = k) (hsz : gs'.size = gs.size) (hkb : k < gs.size) (hgs : ∀ i g, 0 < i → i ≠ k → gs'[i]? = some g → gs[i]? = some g) : Others P (t ++ u) gs' k q := by
  have hd : ∀ j, j ≠ 0 → j ≠ k → Deaf (t ++ u) j = Deaf t j := by
    intro j h0 hjk
    have e : ∀ (l : List MemOp), (∀ op ∈ l, op.g = 0 ∨ op.g = k) → ∀ d, l.foldl (deafStep j) d = d := by
      intro l
      induction l with
      | nil => intros; rfl
      | cons y l ih =>
        intro hl d
        rw [List.foldl_cons, ih (fun op hop => hl op (by simp [hop]))]
        unfold deafStep
        have hy : y.g ≠ j := by rcases hl y (by simp) with e | e <;> rw [e] <;> omega
        split <;> simp [hy]
    have := Deaf_append t j u.toList
    simp only [Array.toArray_toList] at this
    rw [this]
    exact e _ (fun op hop => hu op (by simpa using hop)) _
  refine ⟨fun i g h0 hik hi => ?_, fun j hj => ?_⟩
  · rw [hd i (by omega) hik]
    exact h.old i g h0 hik (hgs i g h0 hik hi)
  · rw [hsz] at hj
    rw [hd j (by omega) (by omega)]
    exact h.above j hj
end

section
variable {P : Program} {k : Nat} {α : Type} {lt : α → α → Prop} {J : α → Goroutine → Goroutine → World → Trace → Prop} {Fin : Goroutine → Goroutine → World → Trace → Prop}

theorem g_ofEvents {g : Nat} {fn : FuncId} {pos : String} {es : Array Event} {op : MemOp} (h : op ∈ MemOp.ofEvents g fn pos es) : op.g = g := by
  obtain ⟨e, _, rfl⟩ := Conc.mem_ofEvents h
  rfl

/-- THE PAIR's RUN. -/
theorem pair_run (hk : 0 < k) (wf : WellFounded lt)
    (hAt : ∀ μ a b w t d, J μ a b w t → J μ a b (w.at d) t)
    (hFin : ∀ a b w t d, Fin a b (w.at d) t → Fin a b w t)
    (hMute : ∀ μ a b w t i fn pos es, i ≠ 0 → i ≠ k → (∀ e ∈ es, Event.mute e = true) → J μ a b w t → J μ a b w (t ++ MemOp.ofEvents i fn pos es))
    (hWake : ∀ μ a b w t g g', J μ a b w t → ∃ μ', J μ' (woken P g g' w a) (woken P g g' w b) w t)
    (hAwake : ∀ μ a b w t, J μ a b w t → awake a ∧ awake b ∧ (a.status = .running ∨ b.status = .running))
    (hStep : ∀ μ a b w t, J μ a b w t → Fin a b w t ∨ ((a.status = .running → StepA P k a b w t fun a' b' w' t' => ∃ μ', lt μ' μ ∧ J μ' a' b' w' t') ∧ (b.status = .running → StepB P k a b w t fun a' b' w' t' => ∃ μ', lt μ' μ ∧ J μ' a' b' w' t'))) :
    ∀ (M : Nat) (μ : α) (gs : Array Goroutine) (a b : Goroutine) (w : World) (sl : Option (Nat × Nat)) (t : Trace) (q : Nat → Nat), sumTo gs.size q ≤ M → gs[0]? = some a → gs[k]? = some b → Others P t gs k q → J μ a b w t →
      ∃ (N : Nat) (gs' : Array Goroutine) (a' b' : Goroutine) (w' : World) (sl' : Option (Nat × Nat)) (t' : Trace) (q' : Nat → Nat),
        runNT P N (crowd gs w sl) t = (.next (crowd gs' w' sl'), t') ∧ gs'.size = gs.size ∧ gs'[0]? = some a' ∧ gs'[k]? = some b' ∧ Fin a' b' w' t' ∧ Others P t' gs' k q' := by
  intro M
  induction M using Nat.strongRecOn with
  | _ M ihM =>
  intro μ
  induction μ using wf.induction with
  | _ μ ihμ =>
  intro gs a b w sl t q hM h0 hb hO hJ
  by_cases hF : Fin a b w t
  · exact ⟨0, gs, a, b, w, sl, t, q, rfl, rfl, h0, hb, hF, hO⟩
  obtain ⟨hwa, hwb, hrun⟩ := hAwake μ a b w t hJ
  have hlt0 : 0 < gs.size := (Array.getElem?_eq_some_iff.1 h0).1
  have hltk : k < gs.size := (Array.getElem?_eq_some_iff.1 hb).1
  have haw : ∀ g ∈ gs, awake g := by
    intro g hg
    obtain ⟨i, hi, rfl⟩ := Array.mem_iff_getElem.1 hg
    rcases Nat.eq_zero_or_pos i with rfl | hpos
    · have : gs[0] = a := by simpa [Array.getElem?_eq_getElem hi] using h0
      rw [this]; exact hwa
    · by_cases hik : i = k
      · subst hik
        have : gs[i] = b := by simpa [Array.getElem?_eq_getElem hi] using hb
        rw [this]; exact hwb
      · exact awake_of ((hO.old i _ hpos hik (Array.getElem?_eq_getElem hi)).status.elim .inl fun x => .inr (.inr x))
  obtain ⟨i, g, d, sl', hi, hg, hst⟩ := crowd_pick (P := P) (w := w) (sl := sl) haw (by
    rcases hrun with h | h
    · exact ⟨0, a, h0, h⟩
    · exact ⟨k, b, hb, h⟩)
  have hJd := hAt μ a b w t d hJ
  have hFd : ¬ Fin a b (w.at d) t := fun h => hF (hFin _ _ _ _ d h)
  have goOn : ∀ (gs' : Array Goroutine) (a' b' : Goroutine) (w' : World) (u : Trace), stepT P (crowd gs w sl) = (.next (crowd gs' w' sl'), u) → gs'.size = gs.size → gs'[0]? = some a' → gs'[k]? = some b' → Others P (t ++ u) gs' k q → (∃ μ', lt μ' μ ∧ J μ' a' b' w' (t ++ u)) →
      ∃ (N : Nat) (gs'' : Array Goroutine) (a'' b'' : Goroutine) (w'' : World) (sl'' : Option (Nat × Nat)) (t'' : Trace) (q'' : Nat → Nat),
        runNT P N (crowd gs w sl) t = (.next (crowd gs'' w'' sl''), t'') ∧ gs''.size = gs.size ∧ gs''[0]? = some a'' ∧ gs''[k]? = some b'' ∧ Fin a'' b'' w'' t'' ∧ Others P t'' gs'' k q'' := by
    intro gs' a' b' w' u hs hsz h0' hb' hO' ⟨μ', hlt, hJ'⟩
    obtain ⟨N, gs'', a'', b'', w'', sl'', t'', q'', hr, hz, x0, xb, xF, xO⟩ := ihμ μ' hlt gs' a' b' w' sl' (t ++ u) q (by rw [hsz]; exact hM) h0' hb' hO' hJ'
    exact ⟨N + 1, gs'', a'', b'', w'', sl'', t'', q'', by simp only [runNT, hs]; exact hr, hz.trans hsz, x0, xb, xF, xO⟩
  have own : ∀ (g' : Nat), (g' = 0 ∨ g' = k) → ∀ fn pos es, ∀ op ∈ MemOp.ofEvents g' fn pos es, op.g = 0 ∨ op.g = k := fun g' hg' fn pos es op hop => by rw [g_ofEvents hop]; exact hg'
  rcases Nat.eq_zero_or_pos i with rfl | hpos
  · -- goroutine 0
    obtain rfl : g = a := by rw [h0] at hi; exact (Option.some.inj hi).symm
    rcases hStep μ g b (w.at d) t hJd with hF' | ⟨hSA, _⟩
    · exact absurd hF' hFd
    rcases hSA hg with ⟨a', w', es, hs, hK⟩ | ⟨a₂, c, z, es, s, r, tm, hs, hc, hnb, hK⟩ | ⟨a₂, c, z, es, s, r, tm, b₂, v, z', hs, hc, rfl, hK⟩ | ⟨a₂, c, z, es, s, r, tm, hs, hc, hnb, hK⟩
    · refine goOn ((gs.map (woken P g a' w')).setIfInBounds 0 a') a' (woken P g a' w' b) w' _ (hst.trans (runT_crowd_go (P := P) (sl := sl') (i := 0) hi (show stepG P (0 == 0) g (w.at d) = _ from hs))) (by simp) (by simp [hlt0]) ?_ (hO.app hk (own 0 (.inl rfl) _ _ _) (by simp) hltk fun j x hj hjk hx => ?_) hK
      · rw [Array.getElem?_setIfInBounds_ne (by omega), Array.getElem?_map, hb]; rfl
      · rw [Array.getElem?_setIfInBounds_ne (by omega), Array.getElem?_map] at hx
        obtain ⟨y, hy, rfl⟩ := Option.map_eq_some_iff.1 hx
        rw [woken_quitsD (hO.old j y hj hjk hy)]
        exact hy
    · have hp : partners (gs.setIfInBounds 0 ph) c true = [] := partners_nil fun j x hx => by
        rcases getElem?_stand gs 0 j x hx with ⟨_, rfl⟩ | ⟨hj, hx'⟩
        · exact offersAt_ph _ _
        · by_cases hjk : j = k
          · subst hjk
            rw [hb] at hx'
            obtain rfl := Option.some.inj hx'
            exact offersAt_of_not_blocked hnb _ _
          · exact offersAt_of_not_blocked (hO.notBlocked (by omega) hjk hx') _ _
      refine goOn (gs.setIfInBounds 0 (parked a₂ #[rcase c z] (.recv true))) _ b (w.at d) _ (hst.trans (crowd_waits (P := P) (sl := sl') (i := 0) hi (show stepG P (0 == 0) g (w.at d) = _ from hs) fun cc hcc => ?_)) (by simp) (by simp [hlt0]) ?_ (hO.app hk (own 0 (.inl rfl) _ _ _) (by simp) hltk fun j x hj hjk hx => ?_) hK
      · obtain rfl : cc = rcase c z := by simpa using hcc
        exact ways_recv_none hc hp
      · rw [Array.getElem?_setIfInBounds_ne (by omega)]; exact hb
      · rwa [Array.getElem?_setIfInBounds_ne (by omega)] at hx
    · have hp : partners (gs.setIfInBounds 0 ph) c true = [(k, 0)] := by
        rw [partners_one (stand_get (by omega) hb) fun j x hj hx => ?_]
        · simp [offersAt_parked_send]
        · rcases getElem?_stand gs 0 j x hx with ⟨_, rfl⟩ | ⟨hj0, hx'⟩
          · exact offersAt_ph _ _
          · exact offersAt_of_not_blocked (hO.notBlocked (by omega) hj hx') _ _
      refine goOn _ _ _ _ _ (hst.trans (crowd_recv_meets (P := P) (sl := sl') (i := 0) (j := k) hi (show stepG P (0 == 0) g (w.at d) = _ from hs) hc (by omega) hb hp)) (by simp) (by simp [hlt0]; rfl) ?_ (hO.app hk ?_ (by simp) hltk fun j x hj hjk hx => ?_) hK
      · rw [Array.getElem?_setIfInBounds_ne (by omega), Array.getElem?_setIfInBounds_self_of_lt hltk]; rfl
      · intro op hop
        rcases Array.mem_append.1 hop with hop | hop
        · exact own 0 (.inl rfl) _ _ _ op hop
        · simp at hop
          rcases hop with rfl | rfl | rfl | rfl <;> simp
      · rwa [Array.getElem?_setIfInBounds_ne (by omega), Array.getElem?_setIfInBounds_ne (by omega)] at hx
    · have hp : partners (gs.setIfInBounds 0 ph) c true = [] := partners_nil fun j x hx => by
        rcases getElem?_stand gs 0 j x hx with ⟨_, rfl⟩ | ⟨hj, hx'⟩
        · exact offersAt_ph _ _
        · by_cases hjk : j = k
          · subst hjk
            rw [hb] at hx'
            obtain rfl := Option.some.inj hx'
            exact offersAt_of_not_blocked hnb _ _
          · exact offersAt_of_not_blocked (hO.notBlocked (by omega) hjk hx') _ _
      refine goOn _ _ b (w.at d) _ (hst.trans (crowd_recv_closed (P := P) (sl := sl') (i := 0) hi (show stepG P (0 == 0) g (w.at d) = _ from hs) hc hp)) (by simp) (by simp [hlt0]; rfl) ?_ (hO.app hk ?_ (by simp) hltk fun j x hj hjk hx => ?_) hK
      · rw [Array.getElem?_setIfInBounds_ne (by omega)]; exact hb
      · intro op hop
        rcases Array.mem_append.1 hop with hop | hop
        · exact own 0 (.inl rfl) _ _ _ op hop
        · simp at hop
          rw [hop]; simp
      · rwa [Array.getElem?_setIfInBounds_ne (by omega)] at hx
  · by_cases hik : i = k
    · -- goroutine k
      subst hik
      obtain rfl : g = b := by rw [hb] at hi; exact (Option.some.inj hi).symm
      have hi0 : (i == 0) = false := by simp; omega
      rcases hStep μ a g (w.at d) t hJd with hF' | ⟨_, hSB⟩
      · exact absurd hF' hFd
      rcases hSB hg with ⟨b', w', es, hs, hK⟩ | ⟨b₂, c, v, z, es, s, r, tm, hs, hc, hna, hK⟩ | ⟨b₂, c, v, z, es, s, r, tm, a₂, z', hs, hc, rfl, hK⟩
      · refine goOn ((gs.map (woken P g b' w')).setIfInBounds i b') (woken P g b' w' a) b' w' _ (hst.trans (runT_crowd_go (P := P) (sl := sl') (i := i) hi (by rw [hi0]; exact hs))) (by simp) ?_ (by simp [hltk]) (hO.app hk (own i (.inr rfl) _ _ _) (by simp) hltk fun j x hj hjk hx => ?_) hK
        · rw [Array.getElem?_setIfInBounds_ne (by omega), Array.getElem?_map, h0]; rfl
        · rw [Array.getElem?_setIfInBounds_ne (by omega), Array.getElem?_map] at hx
          obtain ⟨y, hy, rfl⟩ := Option.map_eq_some_iff.1 hx
          rw [woken_quitsD (hO.old j y hj hjk hy)]
          exact hy
      · have hp : partners (gs.setIfInBounds i ph) c false = [] := partners_nil fun j x hx => by
          rcases getElem?_stand gs i j x hx with ⟨_, rfl⟩ | ⟨hj, hx'⟩
          · exact offersAt_ph _ _
          · rcases Nat.eq_zero_or_pos j with rfl | hj0
            · rw [h0] at hx'
              obtain rfl := Option.some.inj hx'
              exact offersAt_of_not_blocked hna _ _
            · exact offersAt_of_not_blocked (hO.notBlocked hj0 hj hx') _ _
        refine goOn (gs.setIfInBounds i (parked b₂ #[scase c v z] .send)) a _ (w.at d) _ (hst.trans (crowd_waits (P := P) (sl := sl') (i := i) hi (by rw [hi0]; exact hs) fun cc hcc => ?_)) (by simp) ?_ (by simp [hltk]) (hO.app hk (own i (.inr rfl) _ _ _) (by simp) hltk fun j x hj hjk hx => ?_) hK
        · obtain rfl : cc = scase c v z := by simpa using hcc
          exact ways_send_none hc (by simp) hp
        · rw [Array.getElem?_setIfInBounds_ne (by omega)]; exact h0
        · rwa [Array.getElem?_setIfInBounds_ne (by omega)] at hx
      · have hp : partners (gs.setIfInBounds i ph) c false = [(0, 0)] := by
          rw [partners_one (stand_get (by omega) h0) fun j x hj hx => ?_]
          · simp [offersAt_parked_recv]
          · rcases getElem?_stand gs i j x hx with ⟨_, rfl⟩ | ⟨hji, hx'⟩
            · exact offersAt_ph _ _
            · exact offersAt_of_not_blocked (hO.notBlocked (by omega) hji hx') _ _
        refine goOn _ _ _ _ _ (hst.trans (crowd_send_meets (P := P) (sl := sl') (i := i) (j := 0) hi (by rw [hi0]; exact hs) hc (by omega) h0 hp)) (by simp) ?_ (by simp [hltk]; rfl) (hO.app hk ?_ (by simp) hltk fun j x hj hjk hx => ?_) hK
        · rw [Array.getElem?_setIfInBounds_ne (by omega), Array.getElem?_setIfInBounds_self_of_lt hlt0]; rfl
        · intro op hop
          rcases Array.mem_append.1 hop with hop | hop
          · exact own i (.inr rfl) _ _ _ op hop
          · simp at hop
            rcases hop with rfl | rfl | rfl | rfl <;> simp
        · rwa [Array.getElem?_setIfInBounds_ne (by omega), Array.getElem?_setIfInBounds_ne (by omega)] at hx
    · -- one that leaves
      have hq := hO.old i g hpos hik hi
      have hi0 : (i == 0) = false := by simp; omega
      have hlt : i < gs.size := (Array.getElem?_eq_some_iff.1 hi).1
      cases hqi : q i with
      | zero => rw [hqi] at hq; rw [hq.1] at hg; cases hg
      | succ m =>
        rw [hqi] at hq
        rcases hq with ⟨hf, _⟩ | ⟨_, g', es, hm, hstp, hq'⟩
        · rw [hf] at hg; cases hg
        have hrunT := runT_crowd_go (P := P) (sl := sl') (i := i) hi (by rw [hi0]; exact hstp (w.at d))
        have hsz : ((gs.map (woken P g g' (w.at d))).setIfInBounds i g').size = gs.size := by simp
        have hsum : sumTo gs.size (upd q i m) + (m + 1) = sumTo gs.size q + m := by
          have := sumTo_upd q m id hlt
          simpa [hqi] using this
        obtain ⟨μ', hJ'⟩ := hWake μ a b (w.at d) t g g' hJd
        have hJ'' := hMute μ' _ _ _ _ i g.frame.fn g.frame.place es (by omega) hik hm hJ'
        obtain ⟨N, gs'', a'', b'', w'', sl'', t'', q'', hr, hz, x0, xb, xF, xO⟩ := ihM (sumTo gs.size (upd q i m)) (by omega) μ' ((gs.map (woken P g g' (w.at d))).setIfInBounds i g') (woken P g g' (w.at d) a) (woken P g g' (w.at d) b) (w.at d) sl' (t ++ MemOp.ofEvents i g.frame.fn g.frame.place es) (upd q i m) (by rw [hsz]; exact Nat.le_refl _)
          (by rw [Array.getElem?_setIfInBounds_ne (by omega), Array.getElem?_map, h0]; rfl)
          (by rw [Array.getElem?_setIfInBounds_ne hik, Array.getElem?_map, hb]; rfl)
          ⟨fun j x hj hjk hx => by
            by_cases hji : i = j
            · subst hji
              rw [Array.getElem?_setIfInBounds_self_of_lt (by simpa using hlt)] at hx
              obtain rfl := Option.some.inj hx
              rw [upd_same, Deaf_own]
              exact hq'
            · rw [Array.getElem?_setIfInBounds_ne hji, Array.getElem?_map] at hx
              obtain ⟨y, hy, rfl⟩ := Option.map_eq_some_iff.1 hx
              have hqj := hO.old j y hj hjk hy
              rw [woken_quitsD hqj, upd_ne q m (Ne.symm hji), Deaf_other t hji _ (fun op hop => g_ofEvents hop)]
              exact hqj, fun j hj => by
            rw [Deaf_other t (g' := i) (by simp at hj; omega) _ (fun op hop => g_ofEvents hop)]
            exact hO.above j (by simpa using hj)⟩ hJ''
        exact ⟨N + 1, gs'', a'', b'', w'', sl'', t'', q'', by simp only [runNT, hst, hrunT]; exact hr, hz.trans hsz, x0, xb, xF, xO⟩
end
end Go.Pair

/- What is held of the trace while two goroutines work beside one another on memory of their own, and how one hands all over to the other by a WaitGroup. -/
set_option linter.unusedVariables false
namespace Go.Pair
open Go Go.Conc

/-- A cell of the group's. -/
def IsWg (Wg : Nat) (l : Loc) : Prop := ∃ a, l = .cell a ∧ a.block = Wg

def kindOf : Obj → Option TypeId
  | .cells _ e _ => some e
  | _ => none

/-- The heap has grown: what was there is there, of the same kind. -/
structure Grow (w w' : World) : Prop where
  size : w.heap.size ≤ w'.heap.size
  kind : ∀ (i : Nat) (o : Obj), w.heap[i]? = some o → ∃ o', w'.heap[i]? = some o' ∧ kindOf o' = kindOf o

theorem Grow.refl (w : World) : Grow w w := ⟨Nat.le_refl _, fun i o h => ⟨o, h, rfl⟩⟩
theorem Grow.trans {a b c : World} (h : Grow a b) (h' : Grow b c) : Grow a c := ⟨Nat.le_trans h.size h'.size, fun i o e => by
  obtain ⟨o1, e1, k1⟩ := h.kind i o e
  obtain ⟨o2, e2, k2⟩ := h'.kind i o1 e1
  exact ⟨o2, e2, k2.trans k1⟩⟩
theorem Grow.at (w : World) (d : Nat) : Grow w (w.at d) := ⟨Nat.le_refl _, fun i o h => ⟨o, h, rfl⟩⟩

/-- Who may touch what (plainly) while both work: L w l x: in the world w the place l, for writing if x. -/
structure Parts (Shun : Loc → Prop) (Wg Ch : Nat) (LA LB : World → Loc → Bool → Prop) : Prop where
  apart : ∀ w l x y, LA w l x → LB w l y → x = false ∧ y = false
  aOut : ∀ w l x, LA w l x → ¬ IsWg Wg l ∧ l ≠ .obj Ch ∧ ¬ Shun l
  bOut : ∀ w l x, LB w l x → ¬ IsWg Wg l ∧ l ≠ .obj Ch ∧ ¬ Shun l
  aGrow : ∀ w w' l x, Grow w w' → LA w l x → LA w' l x
  bGrow : ∀ w w' l x, Grow w w' → LB w l x → LB w' l x
  wgS : ∀ l, IsWg Wg l → ¬ Shun l
  chS : ¬ Shun (.obj Ch)

section
variable (Shun : Loc → Prop) (k Wg Ch : Nat) (LA LB : World → Loc → Bool → Prop)

structure TI (t : Trace) (w : World) (dA dB : Nat) : Prop where
  clean : ∀ said, ¬ Race said t
  knA : ∀ i a, touchAt t i = some a → a.loc.isMemory = true → Knows t 0 i ∨ (Shun a.loc ∧ a.kind = .atomic) ∨ (t.g? i = some k ∧ (LB w a.loc a.write ∨ ((IsWg Wg a.loc ∨ a.loc = .obj Ch) ∧ a.kind = .atomic)))
  knB : ∀ i a, touchAt t i = some a → a.loc.isMemory = true → Knows t k i ∨ (Shun a.loc ∧ a.kind = .atomic) ∨ (t.g? i = some 0 ∧ (LA w a.loc a.write ∨ (IsWg Wg a.loc ∧ a.kind ≠ .plain)))
  over : ∀ i g, t.g? i = some g → g ≠ 0 → g ≠ k → t.counts i → ∃ j, t.g? j = some 0 ∧ HappensBefore t i j
  dA : Deaf t 0 = dA
  dB : Deaf t k = dB
  seen : ∀ op ∈ t, op.act.low w.heap.size
end

section
variable {Shun : Loc → Prop} {k Wg Ch : Nat} {LA LB : World → Loc → Bool → Prop} {t u : Trace} {w w' : World} {dA dB : Nat}

theorem over_app {k : Nat} (h : ∀ i g, t.g? i = some g → g ≠ 0 → g ≠ k → t.counts i → ∃ j, t.g? j = some 0 ∧ HappensBefore t i j) (hu : ∀ op ∈ u, op.g = 0 ∨ op.g = k ∨ op.act.touch? = none) :
    ∀ i g, (t ++ u).g? i = some g → g ≠ 0 → g ≠ k → (t ++ u).counts i → ∃ j, (t ++ u).g? j = some 0 ∧ HappensBefore (t ++ u) i j := by
  intro i g hg hne hnk hc
  obtain ⟨x, hx, hx2⟩ := hc
  obtain ⟨op, hop, hox⟩ := touch_of hx
  rcases getElem?_append_cases hop with ⟨hi, hop'⟩ | ⟨_, hopu⟩
  · obtain ⟨j, hj, hb⟩ := h i g (by simpa [Trace.g?, getElem?_append_old hi] using hg) hne hnk ((counts_old hi).1 ⟨x, hx, hx2⟩)
    have hjl : j < t.size := by
      unfold Trace.g? at hj
      obtain ⟨z, hz, _⟩ := Option.map_eq_some_iff.1 hj
      exact lt_size_of_getElem? hz
    exact ⟨j, by simpa [Trace.g?, getElem?_append_old hjl] using hj, hb_app u hb⟩
  · have hgo : op.g = g := by simpa [Trace.g?, hop] using hg
    rcases hu op hopu with h0 | h0 | h0
    · exact absurd (hgo.symm.trans h0) hne
    · exact absurd (hgo.symm.trans h0) hnk
    · rw [h0] at hox; cases hox

theorem g?_at {t u : Trace} {i : Nat} {g : Nat} (h : t.g? i = some g) : (t ++ u).g? i = some g := by
  unfold Trace.g? at h
  obtain ⟨z, hz, hzg⟩ := Option.map_eq_some_iff.1 h
  rw [g?_old (lt_size_of_getElem? hz)]
  unfold Trace.g?
  rw [hz]; exact congrArg some hzg

theorem seen_grow (h : ∀ op ∈ t, op.act.low w.heap.size) (hs : w.heap.size ≤ w'.heap.size) (hu : ∀ op ∈ u, op.act.low w'.heap.size) : ∀ op ∈ t ++ u, op.act.low w'.heap.size :=
  seen_app (fun op hop => MemAct.low_mono hs (h op hop)) hu

/-- Goroutine 0's operations. -/
theorem TI.appA (Q : Parts Shun Wg Ch LA LB) (hk : 0 < k) (h : TI Shun k Wg Ch LA LB t w dA dB) (hg : Grow w w') (hu : ∀ op ∈ u, op.g = 0) {dA' : Nat}
    (hs : ∀ op ∈ u, ∀ b, op.act.touch? = some b → b.loc.isMemory = true → LA w' b.loc b.write ∨ (IsWg Wg b.loc ∧ b.kind ≠ .plain)) (hd : Deaf (t ++ u) 0 = dA') (hl : ∀ op ∈ u, op.act.low w'.heap.size) : TI Shun k Wg Ch LA LB (t ++ u) w' dA' dB := by
  refine ⟨fun said => noRace_append (h.clean said) hu fun i a ha op hop b hb hc => ?_, fun i a ha hm => ?_, fun i a ha hm => ?_, over_app h.over fun op hop => .inl (hu op hop), hd, ?_, seen_grow h.seen hg.size hl⟩
  · have hm : b.loc.isMemory = true := hc.1 ▸ hc.2.1
    rcases h.knA i a ha hc.2.1 with hk' | ⟨hsa, _⟩ | ⟨_, hB⟩
    · exact hk'
    · exfalso
      rcases hs op hop b hb hm with h1 | ⟨h1, _⟩
      · exact (Q.aOut _ _ _ h1).2.2 (hc.1 ▸ hsa)
      · exact Q.wgS _ h1 (hc.1 ▸ hsa)
    · exfalso
      obtain ⟨e, _, hw, hcase⟩ := hc
      rcases hB with hB | ⟨hB, hat⟩
      · rcases hs op hop b hb hm with h1 | ⟨h1, _⟩
        · have := Q.apart w' b.loc b.write a.write h1 (e ▸ Q.bGrow _ _ _ _ hg hB)
          rcases hw with hw | hw
          · rw [this.2] at hw; cases hw
          · rw [this.1] at hw; cases hw
        · exact (Q.bOut _ _ _ hB).1 (e ▸ h1)
      · rcases hs op hop b hb hm with h1 | ⟨h1, hnp⟩
        · rcases hB with hB | hB
          · exact (Q.aOut _ _ _ h1).1 (e ▸ hB)
          · exact (Q.aOut _ _ _ h1).2.1 (e ▸ hB)
        · rw [hat] at hcase
          rcases hcase with x | x | ⟨_, x, _⟩
          · cases x
          · exact hnp x
          · cases x
  · obtain ⟨x, hx, hxa⟩ := touch_of ha
    rcases getElem?_append_cases hx with ⟨_, hx'⟩ | ⟨_, hxu⟩
    · rcases h.knA i a (by rw [touchAt_of hx']; exact hxa) hm with h1 | h1 | ⟨h1, h2⟩
      · exact .inl (h1.app u)
      · exact .inr (.inl h1)
      · exact .inr (.inr ⟨g?_at h1, h2.imp (Q.bGrow _ _ _ _ hg) id⟩)
    · have := knows_own hx
      rw [hu x hxu] at this
      exact .inl this
  · obtain ⟨x, hx, hxa⟩ := touch_of ha
    rcases getElem?_append_cases hx with ⟨_, hx'⟩ | ⟨_, hxu⟩
    · rcases h.knB i a (by rw [touchAt_of hx']; exact hxa) hm with h1 | h1 | ⟨h1, h2⟩
      · exact .inl (h1.app u)
      · exact .inr (.inl h1)
      · exact .inr (.inr ⟨g?_at h1, h2.imp (Q.aGrow _ _ _ _ hg) id⟩)
    · exact .inr (.inr ⟨by simp [Trace.g?, hx, hu x hxu], hs x hxu a hxa hm⟩)
  · rw [← h.dB]
    exact Deaf_other t (g := k) (g' := 0) (by omega) u hu

/-- Goroutine k's operations. -/
theorem TI.appB (Q : Parts Shun Wg Ch LA LB) (hk : 0 < k) (h : TI Shun k Wg Ch LA LB t w dA dB) (hg : Grow w w') (hu : ∀ op ∈ u, op.g = k) {dB' : Nat}
    (hs : ∀ op ∈ u, ∀ b, op.act.touch? = some b → b.loc.isMemory = true → LB w' b.loc b.write ∨ ((IsWg Wg b.loc ∨ b.loc = .obj Ch) ∧ b.kind = .atomic)) (hd : Deaf (t ++ u) k = dB') (hl : ∀ op ∈ u, op.act.low w'.heap.size) : TI Shun k Wg Ch LA LB (t ++ u) w' dA dB' := by
  refine ⟨fun said => noRace_append (h.clean said) hu fun i a ha op hop b hb hc => ?_, fun i a ha hm => ?_, fun i a ha hm => ?_, over_app h.over fun op hop => .inr (.inl (hu op hop)), ?_, hd, seen_grow h.seen hg.size hl⟩
  · have hm : b.loc.isMemory = true := hc.1 ▸ hc.2.1
    rcases h.knB i a ha hc.2.1 with hk' | ⟨hsa, _⟩ | ⟨_, hB⟩
    · exact hk'
    · exfalso
      rcases hs op hop b hb hm with h1 | ⟨h1 | h1, _⟩
      · exact (Q.bOut _ _ _ h1).2.2 (hc.1 ▸ hsa)
      · exact Q.wgS _ h1 (hc.1 ▸ hsa)
      · exact Q.chS (h1 ▸ hc.1 ▸ hsa)
    · exfalso
      obtain ⟨e, _, hw, hcase⟩ := hc
      rcases hB with hB | ⟨hB, hnp⟩
      · rcases hs op hop b hb hm with h1 | ⟨h1 | h1, _⟩
        · have := Q.apart w' b.loc a.write b.write (e ▸ Q.aGrow _ _ _ _ hg hB) h1
          rcases hw with hw | hw
          · rw [this.1] at hw; cases hw
          · rw [this.2] at hw; cases hw
        · exact (Q.aOut _ _ _ hB).1 (e ▸ h1)
        · exact (Q.aOut _ _ _ hB).2.1 (e.trans h1)
      · rcases hs op hop b hb hm with h1 | ⟨_, hat⟩
        · exact (Q.bOut _ _ _ h1).1 (e ▸ hB)
        · rw [hat] at hcase
          rcases hcase with x | x | ⟨_, _, x⟩
          · exact hnp x
          · cases x
          · cases x
  · obtain ⟨x, hx, hxa⟩ := touch_of ha
    rcases getElem?_append_cases hx with ⟨_, hx'⟩ | ⟨_, hxu⟩
    · rcases h.knA i a (by rw [touchAt_of hx']; exact hxa) hm with h1 | h1 | ⟨h1, h2⟩
      · exact .inl (h1.app u)
      · exact .inr (.inl h1)
      · exact .inr (.inr ⟨g?_at h1, h2.imp (Q.bGrow _ _ _ _ hg) id⟩)
    · exact .inr (.inr ⟨by simp [Trace.g?, hx, hu x hxu], hs x hxu a hxa hm⟩)
  · obtain ⟨x, hx, hxa⟩ := touch_of ha
    rcases getElem?_append_cases hx with ⟨_, hx'⟩ | ⟨_, hxu⟩
    · rcases h.knB i a (by rw [touchAt_of hx']; exact hxa) hm with h1 | h1 | ⟨h1, h2⟩
      · exact .inl (h1.app u)
      · exact .inr (.inl h1)
      · exact .inr (.inr ⟨g?_at h1, h2.imp (Q.aGrow _ _ _ _ hg) id⟩)
    · have := knows_own hx
      rw [hu x hxu] at this
      exact .inl this
  · rw [← h.dA]
    exact Deaf_other t (g := 0) (g' := k) (by omega) u hu

/-- Operations that touch nothing. -/
theorem TI.appMute (Q : Parts Shun Wg Ch LA LB) (h : TI Shun k Wg Ch LA LB t w dA dB) (hg : Grow w w') (hn : ∀ op ∈ u, op.act.touch? = none) (hd0 : Deaf (t ++ u) 0 = Deaf t 0) (hdk : Deaf (t ++ u) k = Deaf t k) (hl : ∀ op ∈ u, op.act.low w'.heap.size) : TI Shun k Wg Ch LA LB (t ++ u) w' dA dB := by
  have old : ∀ i a, touchAt (t ++ u) i = some a → touchAt t i = some a := fun i a ha => by
    obtain ⟨x, hx, hxa⟩ := touch_of ha
    rcases getElem?_append_cases hx with ⟨_, hx'⟩ | ⟨_, hxu⟩
    · rw [touchAt_of hx']; exact hxa
    · rw [hn x hxu] at hxa; cases hxa
  refine ⟨fun said => ?_, fun i a ha hm => ?_, fun i a ha hm => ?_, over_app h.over fun op hop => .inr (.inr (hn op hop)), hd0.trans h.dA, hdk.trans h.dB, seen_grow h.seen hg.size hl⟩
  · rintro ⟨i, j, hij, ⟨a, b, ha, hb, hc⟩, n1, n2⟩
    exact h.clean said ⟨i, j, hij, ⟨a, b, old i a ha, old j b hb, hc⟩, fun e => n1 (hb_app u e), fun e => n2 (hb_app u e)⟩
  · rcases h.knA i a (old i a ha) hm with h1 | h1 | ⟨h1, h2⟩
    · exact .inl (h1.app u)
    · exact .inr (.inl h1)
    · exact .inr (.inr ⟨g?_at h1, h2.imp (Q.bGrow _ _ _ _ hg) id⟩)
  · rcases h.knB i a (old i a ha) hm with h1 | h1 | ⟨h1, h2⟩
    · exact .inl (h1.app u)
    · exact .inr (.inl h1)
    · exact .inr (.inr ⟨g?_at h1, h2.imp (Q.aGrow _ _ _ _ hg) id⟩)

theorem TI.grow (Q : Parts Shun Wg Ch LA LB) (h : TI Shun k Wg Ch LA LB t w dA dB) (hg : Grow w w') : TI Shun k Wg Ch LA LB t w' dA dB := by
  have := h.appMute (u := #[]) Q hg (by simp) (by simp) (by simp) (by simp)
  simpa using this
end
end Go.Pair

/- The worker says 'release'; the caller says 'acquire': from then on goroutine 0 knows all that the worker did, but for its deaf steps at the group. -/
set_option linter.unusedVariables false
set_option linter.unusedSimpArgs false
namespace Go.Pair
open Go Go.Conc

def stW (Wg : Nat) : Addr := ⟨Wg, 0, none⟩
def smW (Wg : Nat) : Addr := ⟨Wg, 1, none⟩
def mkE (m : Mark) : Event := ⟨.mark m, false, true⟩
def rdE (a : Addr) : Event := ⟨.cell a, false, true⟩
def wrE (a : Addr) : Event := ⟨.cell a, true, true⟩

/-- Goroutine k has said 'release' at r; behind that it touches the group alone, deaf. -/
structure RI (k Wg : Nat) (t : Trace) (r : Nat) : Prop where
  act : t.act? r = some (.mark (.releaseMerge (stW Wg)))
  g : t.g? r = some k
  heard : t.heard r
  late : ∀ i a, r < i → t.g? i = some k → touchAt t i = some a → IsWg Wg a.loc ∧ a.kind = .atomic ∧ 0 < t.deaf k i
  norel : ∀ i, r < i → t.act? i ≠ some (.mark (.release (stW Wg)))

section
variable {Shun : Loc → Prop} {k Wg Ch : Nat} {LA LB : World → Loc → Bool → Prop} {t u : Trace} {w w' : World} {dA dB r : Nat}

theorem RI.app (h : RI k Wg t r) (hn : ∀ op ∈ u, op.act ≠ .mark (.release (stW Wg))) (hu : ∀ i a, t.size ≤ i → (t ++ u).g? i = some k → touchAt (t ++ u) i = some a → IsWg Wg a.loc ∧ a.kind = .atomic ∧ 0 < (t ++ u).deaf k i) : RI k Wg (t ++ u) r := by
  have hr := lt_of_act? h.act
  refine ⟨by rw [act?_old hr]; exact h.act, g?_at h.g, (heard_old hr).2 h.heard, fun i a hi hg ha => ?_, fun i hi e => ?_⟩
  · rcases Nat.lt_or_ge i t.size with hlt | hge
    · have := h.late i a hi (by rwa [g?_old hlt] at hg) (by rwa [touchAt_old hlt] at ha)
      rw [deaf_old (Nat.le_of_lt hlt)]
      exact this
    · exact hu i a hge hg ha
  · obtain ⟨op, ho, hoa⟩ := Option.map_eq_some_iff.1 e
    rcases getElem?_append_cases ho with ⟨hlt, ho'⟩ | ⟨_, hou⟩
    · exact h.norel i hi (by rw [act?_of ho', hoa])
    · exact hn op hou hoa

/-- Operations of others. -/
theorem RI.appOther (h : RI k Wg t r) (hu : ∀ op ∈ u, op.g ≠ k ∧ op.act ≠ .mark (.release (stW Wg))) : RI k Wg (t ++ u) r :=
  h.app (fun op hop => (hu op hop).2) fun i a hi hg _ => by
    obtain ⟨op, ho, hog⟩ := Option.map_eq_some_iff.1 hg
    rcases getElem?_append_cases ho with ⟨hlt, _⟩ | ⟨_, hou⟩
    · omega
    · exact absurd hog (hu op hou).1

/-- The worker's own step, deaf. -/
theorem RI.appOwn (h : RI k Wg t r) (fn : FuncId) (pos : String) (es : Array Event) (hn : ∀ e ∈ es, e.loc ≠ .mark (.release (stW Wg)))
    (hes : ∀ j e, es[j]? = some e → (MemAct.ofEvent e).touch? = none ∨ ((∃ ad wr, e = ⟨.cell ad, wr, true⟩ ∧ ad.block = Wg) ∧ 0 < deafBehind (Deaf t k) (es.extract 0 j))) : RI k Wg (t ++ MemOp.ofEvents k fn pos es) r := by
  refine h.app (fun op hop e => ?_) fun i a hi hg ha => ?_
  · obtain ⟨x, hx, rfl⟩ := Conc.mem_ofEvents hop
    refine hn x hx ?_
    obtain ⟨loc, wr, sy⟩ := x
    cases loc with
    | mark m => cases wr <;> cases sy <;> simp [MemAct.ofEvent] at e <;> rw [e]
    | obj c => cases wr <;> cases sy <;> simp [MemAct.ofEvent] at e
    | _ => simp [MemAct.ofEvent] at e
  · obtain ⟨op, ho, hxt⟩ := touch_of ha
    have hj : (MemOp.ofEvents k fn pos es)[i - t.size]? = some op := by
      rw [Array.getElem?_append] at ho
      simpa [Nat.not_lt.2 hi] using ho
    rw [ofEvents_eq, Array.getElem?_map] at hj
    obtain ⟨e, he, rfl⟩ := Option.map_eq_some_iff.1 hj
    have hjs : i - t.size ≤ es.size := by
      rcases Nat.lt_or_ge (i - t.size) es.size with h' | h'
      · omega
      · rw [Array.getElem?_eq_none h'] at he; cases he
    rcases hes _ e he with h0 | ⟨⟨ad, wr, rfl, had⟩, hd⟩
    · simp only at hxt; rw [h0] at hxt; cases hxt
    · have := deaf_inside t k fn pos es (i - t.size) hjs
      rw [show t.size + (i - t.size) = i by omega] at this
      rw [this]
      cases wr <;> simp [MemAct.ofEvent, MemAct.touch?] at hxt <;> subst hxt <;> exact ⟨⟨ad, rfl, had⟩, rfl, hd⟩

theorem ofEvents_one (g : Nat) (fn : FuncId) (pos : String) (m : Mark) : MemOp.ofEvents g fn pos #[mkE m] = #[{ g, fn, pos, act := .mark m }] := by
  rw [ofEvents_eq]
  simp [mkE, MemAct.ofEvent]

theorem RI.new (hd : Deaf t k = 0) (fn : FuncId) (pos : String) : RI k Wg (t ++ MemOp.ofEvents k fn pos #[mkE (.releaseMerge (stW Wg))]) t.size := by
  rw [ofEvents_one]
  have hy : (t ++ #[({ g := k, fn, pos, act := .mark (.releaseMerge (stW Wg)) } : MemOp)])[t.size]? = some { g := k, fn, pos, act := .mark (.releaseMerge (stW Wg)) } := by simp
  have none : ∀ i, t.size < i → (t ++ #[({ g := k, fn, pos, act := .mark (.releaseMerge (stW Wg)) } : MemOp)])[i]? = none := fun i hi => by
    rw [Array.getElem?_eq_none]
    simp; omega
  refine ⟨by rw [act?_of hy], by simp [Trace.g?], ⟨k, by simp [Trace.g?], by rw [deaf_old (Nat.le_refl _)]; exact hd⟩, fun i a hi hg _ => ?_, fun i hi e => ?_⟩
  · unfold Trace.g? at hg
    rw [none i hi] at hg
    cases hg
  · unfold Trace.act? at e
    rw [none i hi] at e
    cases e

/-- THE JOIN. -/
theorem TI.join (hk : 0 < k) (h : TI Shun k Wg Ch LA LB t w 0 dB) (R : RI k Wg t r) (fn : FuncId) (pos : String) (hW : Wg < w.heap.size) :
    Past (fun l => Shun l ∨ IsWg Wg l) w.heap.size (t ++ MemOp.ofEvents 0 fn pos #[mkE (.acquire (stW Wg))]) := by
  rw [ofEvents_one]
  have hy : (t ++ #[({ g := 0, fn, pos, act := .mark (.acquire (stW Wg)) } : MemOp)])[t.size]? = some { g := 0, fn, pos, act := .mark (.acquire (stW Wg)) } := by simp
  have hr := lt_of_act? R.act
  obtain ⟨opr, hor, hra⟩ := Option.map_eq_some_iff.1 R.act
  have hrg : opr.g = k := by
    have := R.g
    simpa [Trace.g?, hor] using this
  have hrq : HappensBefore (t ++ #[({ g := 0, fn, pos, act := .mark (.acquire (stW Wg)) } : MemOp)]) r t.size :=
    .single (.inr ⟨.marked (a := stW Wg) hr (.inr (by rw [act?_old hr]; exact R.act)) (by rw [act?_of hy]) (fun j h1 h2 => by rw [act?_old h2]; exact R.norel j h1),
      (heard_old hr).2 R.heard, ⟨0, by simp [Trace.g?], by rw [deaf_old (Nat.le_refl _)]; exact h.dA⟩⟩)
  have early : ∀ i op, t[i]? = some op → op.g = k → i < r → HappensBefore (t ++ #[({ g := 0, fn, pos, act := .mark (.acquire (stW Wg)) } : MemOp)]) i t.size := fun i op hi hg hlt =>
    (hb_app _ (hb_po hlt hi hor (hg.trans hrg.symm))).trans hrq
  have old : ∀ i a, touchAt (t ++ #[({ g := 0, fn, pos, act := .mark (.acquire (stW Wg)) } : MemOp)]) i = some a → i < t.size ∧ touchAt t i = some a := fun i a ha => by
    obtain ⟨x, hx, hxa⟩ := touch_of ha
    rcases getElem?_append_cases hx with ⟨hlt, hx'⟩ | ⟨_, hxu⟩
    · exact ⟨hlt, by rw [touchAt_of hx']; exact hxa⟩
    · have : x = { g := 0, fn, pos, act := .mark (.acquire (stW Wg)) } := by simpa using hxu
      rw [this] at hxa; cases hxa
  refine ⟨fun said => ?_, fun i a ha hm => ?_, fun i g hg hne hc => ?_, ?_, ?_⟩
  · rintro ⟨i, j, hij, ⟨a, b, ha, hb, hc⟩, n1, n2⟩
    exact h.clean said ⟨i, j, hij, ⟨a, b, (old i a ha).2, (old j b hb).2, hc⟩, fun e => n1 (hb_app _ e), fun e => n2 (hb_app _ e)⟩
  · obtain ⟨hlt, ha'⟩ := old i a ha
    rcases h.knA i a ha' hm with h1 | ⟨h1, h2⟩ | ⟨h1, h2⟩
    · exact .inl (h1.app _)
    · exact .inr ⟨.inl h1, h2⟩
    · obtain ⟨op, ho, hog⟩ := Option.map_eq_some_iff.1 h1
      rcases Nat.lt_trichotomy i r with hlt' | rfl | hgt
      · exact .inl ⟨t.size, _, hy, rfl, .inr (early i op ho hog hlt')⟩
      · rw [hor] at ho
        obtain rfl := Option.some.inj ho
        rw [touchAt_of hor, hra] at ha'
        cases ha'
      · obtain ⟨x1, x2, _⟩ := R.late i a hgt h1 ha'
        exact .inr ⟨.inr x1, x2⟩
  · obtain ⟨x, hx, hx1, hx2⟩ := hc
    obtain ⟨hlt, hx'⟩ := old i x hx
    have hg' : t.g? i = some g := by rwa [g?_old hlt] at hg
    by_cases hgk : g = k
    · subst hgk
      obtain ⟨op, ho, hog⟩ := Option.map_eq_some_iff.1 hg'
      rcases Nat.lt_trichotomy i r with hlt' | rfl | hgt
      · exact ⟨t.size, by simp [Trace.g?], early i op ho hog hlt'⟩
      · rw [hor] at ho
        obtain rfl := Option.some.inj ho
        rw [touchAt_of hor, hra] at hx'
        cases hx'
      · obtain ⟨_, y2, y3⟩ := R.late i x hgt hg' hx'
        exfalso
        rcases hx2 with hx2 | hx2
        · exact hx2 y2
        · obtain ⟨g1, e1, e2⟩ := (heard_old hlt).1 hx2
          rw [hg'] at e1
          obtain rfl := Option.some.inj e1
          omega
    · obtain ⟨j, hj, hb⟩ := h.over i g hg' hne hgk ⟨x, hx', hx1, hx2.imp id (heard_old hlt).1⟩
      exact ⟨j, g?_at hj, hb_app _ hb⟩
  · rw [Deaf_push]
    exact h.dA
  · refine seen_app h.seen fun op hop => ?_
    have : op = { g := 0, fn, pos, act := .mark (.acquire (stW Wg)) } := by simpa using hop
    rw [this]
    exact hW
end
end Go.Pair

/- A worker that sends over a channel without a buffer, closes it, and is done with a WaitGroup; a caller that receives till the channel is closed, and waits: what each one's own walk shows. -/
set_option linter.unusedVariables false
namespace Go.Pair
open Go Go.Conc

/-- What one may do to the world, as the other sees it. -/
structure Keeps (K : Nat → Obj → Prop) (w w' : World) : Prop where
  tape : w'.tape = w.tape
  os : w'.os = w.os
  output : w'.output = w.output
  size : w.heap.size ≤ w'.heap.size
  keep : ∀ (i : Nat) (o : Obj), w.heap[i]? = some o → K i o → w'.heap[i]? = some o

theorem Keeps.refl (K : Nat → Obj → Prop) (w : World) : Keeps K w w := ⟨rfl, rfl, rfl, Nat.le_refl _, fun _ _ h _ => h⟩
theorem Keeps.trans {K : Nat → Obj → Prop} {a b c : World} (h : Keeps K a b) (h' : Keeps K b c) : Keeps K a c :=
  ⟨h'.tape.trans h.tape, h'.os.trans h.os, h'.output.trans h.output, Nat.le_trans h.size h'.size, fun i o e k => h'.keep i o (h.keep i o e k) k⟩
theorem Keeps.at (K : Nat → Obj → Prop) (w : World) (d : Nat) : Keeps K w (w.at d) := ⟨rfl, rfl, rfl, Nat.le_refl _, fun _ _ h _ => h⟩

def KK : Int := 4294967296
def wgO (ty : TypeId) (st sm : Int) : Obj := .cells #[.int .u64 st, .int .u32 sm] ty
def WgIs (ty : TypeId) (Wg : Nat) (w : World) (st sm : Int) : Prop := w.heap[Wg]? = some (wgO ty st sm)
def WgAny (ty : TypeId) (Wg : Nat) (w : World) : Prop := ∃ st sm, WgIs ty Wg w st sm

structure Cfg where
  P : Program
  Shun : Loc → Prop
  k : Nat
  Wg : Nat
  Ch : Nat
  ty : TypeId
  LA : World → Loc → Bool → Prop
  LB : World → Loc → Bool → Prop
  KA : Nat → Obj → Prop
  KB : Nat → Obj → Prop
  β : Type
  Msg : β → Value → World → Prop
  FB : List (β × Value) → World → Prop
  PostA : List (β × Value) → Goroutine → World → Prop

structure Cfg.Ok (C : Cfg) : Prop where
  hk : 0 < C.k
  parts : Parts C.Shun C.Wg C.Ch C.LA C.LB
  neq : C.Wg ≠ C.Ch
  ka : ∀ i o, C.KA i o → i ≠ C.Wg ∧ i ≠ C.Ch
  kb : ∀ i o, C.KB i o → i ≠ C.Wg ∧ i ≠ C.Ch
  msgB : ∀ b v w w', Keeps C.KB w w' → C.Msg b v w → C.Msg b v w'
  fbB : ∀ sent w w', Keeps C.KB w w' → C.FB sent w → C.FB sent w'
  postAt : ∀ sent g w d, C.PostA sent g (w.at d) ↔ C.PostA sent g w

/-- What a private step may list: a plain access of a place that is its own; or a mark that says nothing. -/
def EvP (L : World → Loc → Bool → Prop) (w' : World) (e : Event) : Prop :=
  (∃ m, e.loc = .mark m ∧ Neutral m) ∨ (∃ a wr, e = ⟨.cell a, wr, false⟩ ∧ L w' (.cell a) wr ∧ a.block < w'.heap.size)

section
variable (C : Cfg) (sent : List (C.β × Value))

structure RA (w w₁ : World) : Prop where
  keep : Keeps C.KA w w₁
  wg : WgAny C.ty C.Wg w → WgAny C.ty C.Wg w₁
  msg : ∀ x ∈ sent, C.Msg x.1 x.2 w → C.Msg x.1 x.2 w₁
structure RB (w w₁ : World) : Prop where
  keep : Keeps C.KB w w₁
  wg : WgAny C.ty C.Wg w → WgAny C.ty C.Wg w₁

structure DA (w w' : World) (es : Array Event) : Prop where
  keep : Keeps C.KB w w'
  grow : Grow w w'
  wg : w'.heap[C.Wg]? = w.heap[C.Wg]?
  ch : w'.heap[C.Ch]? = w.heap[C.Ch]?
  ev : ∀ e ∈ es, EvP C.LA w' e
structure DB (w w' : World) (es : Array Event) : Prop where
  keep : Keeps C.KA w w'
  msg : ∀ x ∈ sent, C.Msg x.1 x.2 w → C.Msg x.1 x.2 w'
  grow : Grow w w'
  wg : w'.heap[C.Wg]? = w.heap[C.Wg]?
  ch : w'.heap[C.Ch]? = w.heap[C.Ch]?
  ev : ∀ e ∈ es, EvP C.LB w' e
/-- A step that does nothing to the world and lists nothing. -/
abbrev D0 : World → World → Array Event → Prop := Go.ConcX.DC0

theorem D0.da {w w' : World} {es : Array Event} (h : D0 w w' es) : DA C w w' es := by
  obtain ⟨rfl, rfl⟩ := h
  exact ⟨.refl _ _, .refl _, rfl, rfl, by simp⟩
theorem D0.db {w w' : World} {es : Array Event} (h : D0 w w' es) : DB C sent w w' es := by
  obtain ⟨rfl, rfl⟩ := h
  exact ⟨.refl _ _, fun _ _ h => h, .refl _, rfl, rfl, by simp⟩

theorem RA.refl (w : World) : RA C sent w w := ⟨.refl _ _, id, fun _ _ h => h⟩
theorem RB.refl (w : World) : RB C w w := ⟨.refl _ _, id⟩
variable {C sent} in
theorem RA.trans {a b c : World} (h : RA C sent a b) (h' : RA C sent b c) : RA C sent a c := ⟨h.keep.trans h'.keep, fun x => h'.wg (h.wg x), fun x hx m => h'.msg x hx (h.msg x hx m)⟩
variable {C} in
theorem RB.trans {a b c : World} (h : RB C a b) (h' : RB C b c) : RB C a c := ⟨h.keep.trans h'.keep, fun x => h'.wg (h.wg x)⟩

/-! ### the worker, from its end backwards -/
def BD4 (g : Goroutine) (w : World) : Prop :=
  g.status = .running ∧ ((∃ st, WgIs C.ty C.Wg w st 0) → ∃ g', stepG C.P false g w = .go g' (w.setCell (smW C.Wg) (.int .u32 1)) (semEvents (smW C.Wg)) ∧ mayWake C.P g = true ∧ ∃ q, QuitsD C.P q 1 g')
def BD3 (g : Goroutine) (w : World) : Prop :=
  g.status = .running ∧ ((∃ st, WgIs C.ty C.Wg w st 0) → ∃ g', stepG C.P false g w = .go g' (w.setCell (stW C.Wg) (.int .u64 0)) #[wrE (stW C.Wg)] ∧ ∃ m, Goes C.P false (RB C) D0 (BD4 C) m g' (w.setCell (stW C.Wg) (.int .u64 0)))
def BD2 (g : Goroutine) (w : World) : Prop :=
  g.status = .running ∧ (WgIs C.ty C.Wg w 1 0 → ∃ g', stepG C.P false g w = .go g' w #[rdE (stW C.Wg)] ∧ ∃ m, Goes C.P false (RB C) D0 (BD3 C) m g' w)
def BD1 (g : Goroutine) (w : World) : Prop :=
  g.status = .running ∧
    (WgIs C.ty C.Wg w KK 0 → ∃ g', stepG C.P false g w = .go g' (w.setCell (stW C.Wg) (.int .u64 0)) #[rdE (stW C.Wg), wrE (stW C.Wg)] ∧ ∃ q, QuitsD C.P q 1 g') ∧
    (WgIs C.ty C.Wg w (KK + 1) 0 → ∃ g', stepG C.P false g w = .go g' (w.setCell (stW C.Wg) (.int .u64 1)) #[rdE (stW C.Wg), wrE (stW C.Wg)] ∧ ∃ m, Goes C.P false (RB C) D0 (BD2 C) m g' (w.setCell (stW C.Wg) (.int .u64 1)))
def BK1 (g : Goroutine) (w : World) : Prop :=
  g.status = .running ∧ ∃ g', stepG C.P false g w = .go g' w #[mkE .disable] ∧ ∃ m, Goes C.P false (RB C) D0 (BD1 C) m g' w
def BR0 (g : Goroutine) (w : World) : Prop :=
  g.status = .running ∧ C.FB sent w ∧ ∃ g', stepG C.P false g w = .go g' w #[mkE (.releaseMerge (stW C.Wg))] ∧ ∃ m, Goes C.P false (RB C) D0 (BK1 C) m g' w
def BClose (g : Goroutine) (w : World) : Prop :=
  g.status = .running ∧ mayWake C.P g = true ∧ ∀ s r tm, w.heap[C.Ch]? = some (.chan 0 #[] false s r tm) →
    ∃ g₂, stepG C.P false g w = .go g₂ (w.shut C.Ch s r tm) #[⟨.obj C.Ch, false, true⟩, ⟨.obj C.Ch, true, true⟩] ∧ g₂.status = .running ∧ ∃ m, Goes C.P false (RB C) (DB C sent) (BR0 C sent) m g₂ (w.shut C.Ch s r tm)
def BSend (b : C.β) (Next : Value → Goroutine → World → Prop) (g : Goroutine) (w : World) : Prop :=
  g.status = .running ∧ ∃ v z, stepG C.P false g w = .comm (core g) #[scase C.Ch v z] true .send w #[] ∧ C.Msg b v w ∧ ∀ w₂, RB C w w₂ → Next v (Conc.served (core g) undef) w₂

/-! ### the caller, from its end backwards -/
def AAcq (g : Goroutine) (w : World) : Prop :=
  g.status = .running ∧ ∃ g', stepG C.P true g w = .go g' w #[mkE (.acquire (stW C.Wg))] ∧ g'.status = .running ∧ C.PostA sent g' w
def AKe (g : Goroutine) (w : World) : Prop :=
  g.status = .running ∧ ∃ g', stepG C.P true g w = .go g' w #[mkE .enable] ∧ ∃ m, Goes C.P true (RA C sent) D0 (AAcq C sent) m g' w
def AW4 (g : Goroutine) (w : World) : Prop :=
  g.status = .running ∧ (WgIs C.ty C.Wg w 0 0 → ∃ g', stepG C.P true g w = .go g' w #[rdE (stW C.Wg)] ∧ ∃ m, Goes C.P true (RA C sent) D0 (AKe C sent) m g' w)
def AW3 (g : Goroutine) (w : World) : Prop :=
  g.status = .running ∧ g.offers = none ∧
    ((∃ st, WgIs C.ty C.Wg w st 0) → stepG C.P true g w = .go { g with status := .blocked } w #[]) ∧
    (WgIs C.ty C.Wg w 0 1 → ∃ g', stepG C.P true g w = .go g' (w.setCell (smW C.Wg) (.int .u32 0)) (semEvents (smW C.Wg)) ∧ ∃ m, Goes C.P true (RA C sent) D0 (AW4 C sent) m g' (w.setCell (smW C.Wg) (.int .u32 0)))
def AWm (g : Goroutine) (w : World) : Prop :=
  g.status = .running ∧ ∃ g', stepG C.P true g w = .go g' w #[mkE (.write (smW C.Wg))] ∧ ∃ m, Goes C.P true (RA C sent) D0 (AW3 C sent) m g' w
def AWz (g : Goroutine) (w : World) : Prop :=
  g.status = .running ∧ (WgIs C.ty C.Wg w 0 0 → ∃ g', stepG C.P true g w = .go g' w #[rdE (stW C.Wg)] ∧ ∃ m, Goes C.P true (RA C sent) D0 (AKe C sent) m g' w)
def AW2 (g : Goroutine) (w : World) : Prop :=
  g.status = .running ∧
    (WgIs C.ty C.Wg w KK 0 → ∃ g', stepG C.P true g w = .go g' (w.setCell (stW C.Wg) (.int .u64 (KK + 1))) #[rdE (stW C.Wg), wrE (stW C.Wg)] ∧ ∃ m, Goes C.P true (RA C sent) D0 (AWm C sent) m g' (w.setCell (stW C.Wg) (.int .u64 (KK + 1)))) ∧
    (WgIs C.ty C.Wg w 0 0 → ∃ g', stepG C.P true g w = .go g' w #[rdE (stW C.Wg)] ∧ ∃ m, Goes C.P true (RA C sent) D0 (AWz C sent) m g' w)
def AW1 (g : Goroutine) (w : World) : Prop :=
  g.status = .running ∧
    (WgIs C.ty C.Wg w KK 0 → ∃ g', stepG C.P true g w = .go g' w #[rdE (stW C.Wg)] ∧ ∃ m, Goes C.P true (RA C sent) D0 (AW2 C sent) m g' w) ∧
    (WgIs C.ty C.Wg w 0 0 → ∃ g', stepG C.P true g w = .go g' w #[rdE (stW C.Wg)] ∧ ∃ m, Goes C.P true (RA C sent) D0 (AKe C sent) m g' w)
def AKd (g : Goroutine) (w : World) : Prop :=
  g.status = .running ∧ ∃ g', stepG C.P true g w = .go g' w #[mkE .disable] ∧ ∃ m, Goes C.P true (RA C sent) D0 (AW1 C sent) m g' w
/-- At a receive that will find the channel closed. -/
def ARc (g : Goroutine) (w : World) : Prop :=
  g.status = .running ∧ ∃ z, stepG C.P true g w = .comm (core g) #[rcase C.Ch z] true (.recv true) w #[] ∧ ∀ w₂, RA C sent w w₂ → ∃ m, Goes C.P true (RA C sent) (DA C) (AKd C sent) m (Conc.served (core g) (.tuple #[z, .bool false])) w₂
def ARecv (b : C.β) (Next : Value → Goroutine → World → Prop) (g : Goroutine) (w : World) : Prop :=
  g.status = .running ∧ ∃ z, stepG C.P true g w = .comm (core g) #[rcase C.Ch z] true (.recv true) w #[] ∧ ∀ v w₂, RA C sent w w₂ → C.Msg b v w₂ → Next v (Conc.served (core g) (.tuple #[v, .bool true])) w₂
end

section
variable (C : Cfg)
def BSends : List C.β → List (C.β × Value) → Goroutine → World → Prop
  | [], sent, g, w => ∃ n, Goes C.P false (RB C) (DB C sent) (BClose C sent) n g w
  | b :: bs, sent, g, w => ∃ n, Goes C.P false (RB C) (DB C sent) (BSend C b fun v g' w' => BSends bs (sent ++ [(b, v)]) g' w') n g w

def BStop : List C.β → List (C.β × Value) → Goroutine → World → Prop
  | [], sent => BClose C sent
  | b :: bs, sent => BSend C b fun v g' w' => BSends C bs (sent ++ [(b, v)]) g' w'
theorem bsends_iff (bs : List C.β) (sent : List (C.β × Value)) (g : Goroutine) (w : World) : BSends C bs sent g w ↔ ∃ n, Goes C.P false (RB C) (DB C sent) (BStop C bs sent) n g w := by
  cases bs <;> exact Iff.rfl
theorem BStop.running {bs : List C.β} {sent : List (C.β × Value)} {g : Goroutine} {w : World} (h : BStop C bs sent g w) : g.status = .running := by cases bs <;> exact h.1

def ARecvs : List C.β → List (C.β × Value) → Goroutine → World → Prop
  | [], sent, g, w => ∃ n, Goes C.P true (RA C sent) (DA C) (ARc C sent) n g w
  | b :: bs, sent, g, w => ∃ n, Goes C.P true (RA C sent) (DA C) (ARecv C sent b fun v g' w' => ARecvs bs (sent ++ [(b, v)]) g' w') n g w
def AStop : List C.β → List (C.β × Value) → Goroutine → World → Prop
  | [], sent => ARc C sent
  | b :: bs, sent => ARecv C sent b fun v g' w' => ARecvs C bs (sent ++ [(b, v)]) g' w'
theorem arecvs_iff (bs : List C.β) (sent : List (C.β × Value)) (g : Goroutine) (w : World) : ARecvs C bs sent g w ↔ ∃ n, Goes C.P true (RA C sent) (DA C) (AStop C bs sent) n g w := by
  cases bs <;> exact Iff.rfl
theorem AStop.comm {bs : List C.β} {sent : List (C.β × Value)} {g : Goroutine} {w : World} (h : AStop C bs sent g w) : g.status = .running ∧ ∃ z, stepG C.P true g w = .comm (core g) #[rcase C.Ch z] true (.recv true) w #[] := by
  cases bs <;> exact ⟨h.1, let ⟨z, h1, _⟩ := h.2; ⟨z, h1⟩⟩
end

theorem goes_monoD {P : Program} {main : Bool} {R : World → World → Prop} {D D' : World → World → Array Event → Prop} {Stop : Goroutine → World → Prop} (hD : ∀ w w' es, D w w' es → D' w w' es) :
    ∀ {n : Nat} {g : Goroutine} {w : World}, Goes P main R D Stop n g w → Goes P main R D' Stop n g w
  | 0, _, _, h => h
  | n + 1, g, w, h => by
    rcases h with h | ⟨hs, h⟩
    · exact .inl h
    · refine .inr ⟨hs, fun w₁ h₁ => ?_⟩
      have := h w₁ h₁
      revert this
      cases stepG P main g w₁ <;> simp only [GStep.goes, imp_self]
      exact fun ⟨d, x⟩ => ⟨hD _ _ _ d, goes_monoD hD x⟩
end Go.Pair

/- The streams of the world (what the operating system is, what was written out): the caller's script keeps them, so that its end may say so. -/
set_option linter.unusedVariables false
namespace Go.Pair
open Go Go.Conc

/-- The streams are as they were. -/
def Same (w w' : World) : Prop := w'.os = w.os ∧ w'.output = w.output
theorem Same.refl (w : World) : Same w w := ⟨rfl, rfl⟩
theorem Same.trans {a b c : World} (h : Same a b) (h' : Same b c) : Same a c := ⟨h'.1.trans h.1, h'.2.trans h.2⟩
theorem Keeps.same {K : Nat → Obj → Prop} {w w' : World} (h : Keeps K w w') : Same w w' := ⟨h.os, h.output⟩

/-- A walk in which every step keeps a fact, under other words for what is relied on and done. -/
theorem goes_conv {P : Program} {main : Bool} {R R' : World → World → Prop} {D D' : World → World → Array Event → Prop} {Stop Stop' : Goroutine → World → Prop} {I : World → Prop} (hR : ∀ w w', R' w w' → R w w') (hRI : ∀ w w', R' w w' → I w → I w')
    (hD : ∀ w w' es, D w w' es → D' w w' es) (hDI : ∀ w w' es, D w w' es → I w → I w') (hS : ∀ g w, I w → Stop g w → Stop' g w) : ∀ {n : Nat} {g : Goroutine} {w : World}, I w → Goes P main R D Stop n g w → Goes P main R' D' Stop' n g w
  | 0, g, w, hI, h => fun w₁ r => hS g w₁ (hRI _ _ r hI) (h w₁ (hR _ _ r))
  | n + 1, g, w, hI, h => by
    rcases h with h | ⟨hs, h⟩
    · exact .inl fun w₁ r => hS g w₁ (hRI _ _ r hI) (h w₁ (hR _ _ r))
    · refine .inr ⟨hs, fun w₁ r => ?_⟩
      have h1 := h w₁ (hR _ _ r)
      have hI1 := hRI _ _ r hI
      revert h1
      cases stepG P main g w₁ <;> simp only [GStep.goes, imp_self]
      exact fun ⟨d, x⟩ => ⟨hD _ _ _ d, goes_conv hR hRI hD hDI hS (hDI _ _ _ d hI1) x⟩

section
variable (C : Cfg) (I : World → Prop)
/-- The same pair, whose end says a fact more. -/
def Cfg.saying : Cfg := { C with PostA := fun s g w => I w ∧ C.PostA s g w }
variable {C I}
theorem Cfg.Ok.saying (O : C.Ok) (hI : ∀ (w : World) (d : Nat), I (w.at d) ↔ I w) : (C.saying I).Ok := ⟨O.hk, O.parts, O.neq, O.ka, O.kb, O.msgB, O.fbB, fun s g w d => and_congr (hI w d) (O.postAt s g w d)⟩
variable {sent : List (C.β × Value)} {g : Goroutine} {w : World}

theorem goes_a0 (hK : ∀ w w', Same w w' → I w → I w') {Stop Stop' : Goroutine → World → Prop} (hS : ∀ g w, I w → Stop g w → Stop' g w) {n : Nat} (hI : I w) (h : Goes C.P true (RA C sent) D0 Stop n g w) : Goes (C.saying I).P true (RA (C.saying I) sent) D0 Stop' n g w :=
  goes_conv (fun w w' r => ⟨r.keep, r.wg, r.msg⟩) (fun w w' r => hK _ _ r.keep.same) (fun _ _ _ h => h) (fun w w' es h => by obtain ⟨rfl, rfl⟩ := h; exact id) hS hI h
theorem goes_a1 (hK : ∀ w w', Same w w' → I w → I w') {Stop Stop' : Goroutine → World → Prop} (hS : ∀ g w, I w → Stop g w → Stop' g w) {n : Nat} (hI : I w) (h : Goes C.P true (RA C sent) (DA C) Stop n g w) : Goes (C.saying I).P true (RA (C.saying I) sent) (DA (C.saying I)) Stop' n g w :=
  goes_conv (fun w w' r => ⟨r.keep, r.wg, r.msg⟩) (fun w w' r => hK _ _ r.keep.same) (fun _ _ _ h => ⟨h.keep, h.grow, h.wg, h.ch, h.ev⟩) (fun w w' es h => hK _ _ h.keep.same) hS hI h

theorem aacq_say (hI : I w) (h : AAcq C sent g w) : AAcq (C.saying I) sent g w := by
  obtain ⟨h1, g', h2, h3, h4⟩ := h
  exact ⟨h1, g', h2, h3, hI, h4⟩
theorem ake_say (hK : ∀ w w', Same w w' → I w → I w') (hI : I w) (h : AKe C sent g w) : AKe (C.saying I) sent g w := by
  obtain ⟨h1, g', h2, m, h3⟩ := h
  exact ⟨h1, g', h2, m, goes_a0 hK (fun _ _ => aacq_say) hI h3⟩
theorem aw4_say (hK : ∀ w w', Same w w' → I w → I w') (hI : I w) (h : AW4 C sent g w) : AW4 (C.saying I) sent g w := by
  refine ⟨h.1, fun hw => ?_⟩
  obtain ⟨g', h2, m, h3⟩ := h.2 hw
  exact ⟨g', h2, m, goes_a0 hK (fun _ _ => ake_say hK) hI h3⟩
theorem aw3_say (hK : ∀ w w', Same w w' → I w → I w') (hI : I w) (h : AW3 C sent g w) : AW3 (C.saying I) sent g w := by
  refine ⟨h.1, h.2.1, h.2.2.1, fun hw => ?_⟩
  obtain ⟨g', h2, m, h3⟩ := h.2.2.2 hw
  exact ⟨g', h2, m, goes_a0 hK (fun _ _ => aw4_say hK) (hK w (w.setCell (smW C.Wg) (.int .u32 0)) ⟨rfl, rfl⟩ hI) h3⟩
theorem awm_say (hK : ∀ w w', Same w w' → I w → I w') (hI : I w) (h : AWm C sent g w) : AWm (C.saying I) sent g w := by
  obtain ⟨h1, g', h2, m, h3⟩ := h
  exact ⟨h1, g', h2, m, goes_a0 hK (fun _ _ => aw3_say hK) hI h3⟩
theorem awz_say (hK : ∀ w w', Same w w' → I w → I w') (hI : I w) (h : AWz C sent g w) : AWz (C.saying I) sent g w := by
  refine ⟨h.1, fun hw => ?_⟩
  obtain ⟨g', h2, m, h3⟩ := h.2 hw
  exact ⟨g', h2, m, goes_a0 hK (fun _ _ => ake_say hK) hI h3⟩
theorem aw2_say (hK : ∀ w w', Same w w' → I w → I w') (hI : I w) (h : AW2 C sent g w) : AW2 (C.saying I) sent g w := by
  refine ⟨h.1, fun hw => ?_, fun hw => ?_⟩
  · obtain ⟨g', h2, m, h3⟩ := h.2.1 hw
    exact ⟨g', h2, m, goes_a0 hK (fun _ _ => awm_say hK) (hK w (w.setCell (stW C.Wg) (.int .u64 (KK + 1))) ⟨rfl, rfl⟩ hI) h3⟩
  · obtain ⟨g', h2, m, h3⟩ := h.2.2 hw
    exact ⟨g', h2, m, goes_a0 hK (fun _ _ => awz_say hK) hI h3⟩
theorem aw1_say (hK : ∀ w w', Same w w' → I w → I w') (hI : I w) (h : AW1 C sent g w) : AW1 (C.saying I) sent g w := by
  refine ⟨h.1, fun hw => ?_, fun hw => ?_⟩
  · obtain ⟨g', h2, m, h3⟩ := h.2.1 hw
    exact ⟨g', h2, m, goes_a0 hK (fun _ _ => aw2_say hK) hI h3⟩
  · obtain ⟨g', h2, m, h3⟩ := h.2.2 hw
    exact ⟨g', h2, m, goes_a0 hK (fun _ _ => ake_say hK) hI h3⟩
theorem akd_say (hK : ∀ w w', Same w w' → I w → I w') (hI : I w) (h : AKd C sent g w) : AKd (C.saying I) sent g w := by
  obtain ⟨h1, g', h2, m, h3⟩ := h
  exact ⟨h1, g', h2, m, goes_a0 hK (fun _ _ => aw1_say hK) hI h3⟩
theorem arc_say (hK : ∀ w w', Same w w' → I w → I w') (hI : I w) (h : ARc C sent g w) : ARc (C.saying I) sent g w := by
  obtain ⟨h1, z, h2, h3⟩ := h
  refine ⟨h1, z, h2, fun w₂ r => ?_⟩
  obtain ⟨m, h4⟩ := h3 w₂ ⟨r.keep, r.wg, r.msg⟩
  exact ⟨m, goes_a1 hK (fun _ _ => akd_say hK) (hK _ _ r.keep.same hI) h4⟩
theorem arecvs_say (hK : ∀ w w', Same w w' → I w → I w') : ∀ (bs : List C.β) (sent : List (C.β × Value)) (g : Goroutine) (w : World), I w → ARecvs C bs sent g w → ARecvs (C.saying I) bs sent g w
  | [], sent, g, w, hI, h => by
    obtain ⟨n, h⟩ := h
    exact ⟨n, goes_a1 hK (fun _ _ => arc_say hK) hI h⟩
  | b :: bs, sent, g, w, hI, h => by
    obtain ⟨n, h⟩ := h
    refine ⟨n, goes_a1 hK (fun g w hI h => ?_) hI h⟩
    obtain ⟨h1, z, h2, h3⟩ := h
    exact ⟨h1, z, h2, fun v w₂ r hm => arecvs_say hK bs _ _ _ (hK _ _ r.keep.same hI) (h3 v w₂ ⟨r.keep, r.wg, r.msg⟩ hm)⟩
end
end Go.Pair
