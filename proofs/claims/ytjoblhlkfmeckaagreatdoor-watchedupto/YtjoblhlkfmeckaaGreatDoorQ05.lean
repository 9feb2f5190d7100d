import Derived.Test.YtjoblhlkfmeckaaGreatDoorQ04
import Derived.KernelRfl
set_option linter.unusedVariables false
set_option linter.unusedSimpArgs false
open Go renaming World → qq,Frame → qg,FuncId → du,Value → tj,Program → me,undef → yj,TypeId → s8,Oper → gz,Goroutine → gq,Exit → nq,Item → r8,stepG → dx,Code → s9,Operand → vh,yielded → iw,callFunc → ju,exitTo → xt
open Option renaming some → lp,none → od
open Bool renaming true → s7,false → vp
open Go.Region renaming wanted → br
open Go.Extern.BytealgIndexByte renaming indexByte → ir
open Go.Extern.BytealgCompare renaming compare → ie
open Go.Extern.BytealgCount renaming count → su
open Go.Extern.BytealgIndex renaming index → bm
open Go.Frame renaming enter → bz,finish_at → gh
open Go.Conv renaming runesToString → qe,stringToRunes → ky
open Array renaming getElem?_replicate → uw,replicate → yl
open Go.Sem renaming runT_eq → lk
open Go.CallKind renaming early → um
open Go.Extern.Bytes renaming bytesOf → qp,asByte → gn
open Go.Builtin renaming holdsCells → re,mayShare → np,append_ → yb
open Go.GStep renaming after → fw
open Go.Ending renaming returned → pd
theorem O83{p:Prop}(h:p:=by
 repeat' first|(with_reducible first|exact T.pure _|exact T.stuck _|exact T.observed|exact T.choose _|exact T.stringOp _ _ _|exact T.asBool _|refine T.then ?_ (fun _=>?_))|dsimp only|split):p:=h
theorem Vkz{p:Prop}(h:p:=by
 repeat' first|(with_reducible first|exact T.pure _|exact T.stuck _|exact T.underlying _)|refine T.getObjBind (fun _=>?_) (fun _ _=>trivial)|(with_reducible refine T.then ?_ (fun _=>?_))|dsimp only|split):p:=h
theorem Ua1{p:Prop}(h:p:=by
 cases zeros <;> simp only [aV,bQ,bC,Bool.not_false,Bool.not_true] <;> (repeat' first|(with_reducible first|exact T.pure _|exact T.stuck _|exact T.underlying _|exact T.sizeOf _|exact T.typeInfo _|exact T.zeroValue _|exact T.asInt _|exact T.runtimePanic _|exact T.choose _|exact T.lenOf _|exact T.firstCells _ _ _|exact T.storeCells _ _ _|exact T.limit _|exact T.noRoom|exact T.askRoom _|exact T.newRow _ _|refine T.mayShareThen (fun _=>?_) (fun _=>?_)|refine T.then ?_ (fun _=>?_))|dsimp only|split|exact trivial)):p:=h
theorem Y85{p q:Prop}(k:q)(h:Hd q->p:=by
 intro kz
 have henter:(base f).at { tmps:=args++Array.replicate (fn'.ntmps - args.size) undef,defers:=[] } [.code c]=Frame.enter P f args .normal:=by
  simp [Frame.enter,h1,h2,base,Frame.at]
 revert henter
 exact kz.1):p:=h ⟨k⟩
theorem Sp3{p q:Prop}(k:q)(h:Hd q->p:=by
 intro kz
 have hT':Ev P (Ta P S) (execOp a.eval o) (fun _=>False):=by
  have:=hT.tame (b.at a []) Ga
  rwa [Frame.eval_at'] at this
 revert hT'
 exact kz.1):p:=h ⟨k⟩
theorem M9m{p:Prop}(h:p:=by
 cases e with
 | normal=>exact absurd rfl he
 | exit id=>obtain⟨k',hk,hg⟩:=h;exact⟨k',by cases x <;> simp_all [exitTo,Item.plain],hg⟩
 | ret=>exact h
 | goto l=>exact h
 | panic ch=>exact h
 | outgrown=>exact h):p:=h
theorem Ta1{p q:Prop}(k:q)(h:Hd q->p:=by
 intro kz
 obtain⟨u',r1,r2,r3,r4,r5⟩:=Ja (J:=J) _ _ (w.at d).heap.size u (w.at d) #[] _ _ _ hT' (fun i hi=>⟨(hn.2 i hi).lt,hn.2 i hi⟩) (aA _) (fun _ h=>h.elim) (show NF (w.at d) from hn.1) hs hrT ⟨_,he⟩
 revert u' r1 r2 r3 r4 r5
 exact kz.1):p:=h ⟨k⟩
theorem Lhg{p:Prop}(h:p:=by
 rw [stepG_enter ho hw hke (hr w),enter_at _ h1 h2]
 congr 1
 unfold listed
 rw [he w]
 exact seen_none P _):p:=h
theorem Ecw{p:Prop}(h:p:=by
 rcases he with rfl|rfl
 ·exact EV.ctl rfl rfl (fun w1=>stepG_end) (ret [] a' w' had hp)
 ·exact fun todo=>ret todo a' w' had hp):p:=h
namespace Go.Pair
open Go Go.Conc
section
variable {P:me} {S:Env} {Bs:Nat->Prop} {c0:qg} {Hb:List qg} {Stop:tj->qq->Prop} {w0:qq}
structure R7(P:me)(S:Env)(Bs:Nat->Prop)(c0:qg)(Hb:List qg)(Stop:tj->qq->Prop)(w0:qq) where
 fr:qg
 up:List qg
 w:qq
 okf:Km P S fr
 oku:R8 P S up
 kept:Kept Bs w0 w
 not:¬Pe P Bs c0 Hb Stop fr up w
def Ou(w v:qq)(K:Nat):Prop:=∀j,j<K->v.tape (v.drawn+j)=w.tape (w.drawn+j)
structure Adv(x:R7 P S Bs c0 Hb Stop w0)(d K:Nat)(y:R7 P S Bs c0 Hb Stop w0):Prop where
 mid:¬(x.up = []/\x.fr.mode=.returning)->(∀v,Cq Bs (x.w.at d) v->Ou (x.w.at d) v K->One P S Bs K x.fr x.up (c0 :: Hb) [Ki P] (x.w.at d) v) /\
  ∀fr' up' w' es,dx P s7 (G x.fr (x.up++c0 :: Hb)) (x.w.at d)=.go (G fr' (up'++c0 :: Hb)) w' es->Km P S fr'->R8 P S up'->Kept Bs w0 w'->x.w.heap.size<=w'.heap.size->Ed x.w w'->(∀e∈es,Pd Bs w'.heap.size e)->y.fr=fr'/\y.up=up'/\y.w=w'
 last:x.up = []->x.fr.mode=.returning->(∀fn,P.funcs[x.fr.fn]? = lp fn->∀v,Cq Bs (x.w.at d) v->Ou (x.w.at d) v K->Out P Bs (fun _=>True) (results fn x.fr.tmps) (x.w.at d) v #[]) /\
  ¬∃val w' es,dx P s7 (G x.fr (c0 :: Hb)) (x.w.at d)=.go (G (c0.finish val) Hb) w' es/\x.w.heap.size<=w'.heap.size/\Ed x.w w'/\(∀e∈es,Pd Bs w'.heap.size e)/\Stop val w'
theorem Z0(hS:BL P S){fr:qg}{up:List qg}(hf:Km P S fr)(hu:R8 P S up)(hn:¬(up = []/\fr.mode=.returning))(w:qq):∃K,∀(z z':List qg) (v:qq),Cq Bs w v->Ou w v K->One P S Bs K fr up z z' w v:=by
 rcases hf.mode with hm|hm
 ·exact AH hS hf hm hu w
 ·cases up with
  | nil=>exact absurd ⟨rfl,hm⟩ hn
  | cons c up=>exact PN hS hf hm hu w
theorem adv(hS:BL P S)(x:R7 P S Bs c0 Hb Stop w0):∃d K y,Adv x d K y:=by
 by_cases Gw:x.up = []/\x.fr.mode=.returning
 ·obtain⟨hu,hm⟩:=Gw
  have hnot:∃d,¬∃val w' es,dx P s7 (G x.fr (c0 :: Hb)) (x.w.at d)=.go (G (c0.finish val) Hb) w' es/\x.w.heap.size<=w'.heap.size/\Ed x.w w'/\(∀e∈es,Pd Bs w'.heap.size e)/\Stop val w':=by
   refine bG fun hno=>x.not ?_
   rw [hu]
   refine .stop fun d=>?_
   exact bG fun h=>hno ⟨d,h⟩
  obtain⟨d,hd⟩:=hnot
  obtain⟨fn,hf⟩:=x.okf.fn
  refine⟨d,Fu P (results fn x.fr.tmps) (x.w.at d),x,fun h=>absurd ⟨hu,hm⟩ h,fun _ _=>⟨fun fn' hf' v hs ha=>?_,hd⟩⟩
  obtain rfl:fn'=fn:=aC (hf'.symm.trans hf)
  exact Kf (results fn' x.fr.tmps) (fun _=>False) _ v #[] (T.results fn' x.fr.tmps _) (fun _ h=>h.elim) hs ha
 ·have hnot:∃d,¬∃fr' up' w' es,dx P s7 (G x.fr (x.up++c0 :: Hb)) (x.w.at d)=.go (G fr' (up'++c0 :: Hb)) w' es/\x.w.heap.size<=w'.heap.size/\Ed x.w w'/\(∀e∈es,Pd Bs w'.heap.size e)/\Pe P Bs c0 Hb Stop fr' up' w':=by
   refine bG fun hno=>x.not (Pe.steps fun d=>?_)
   exact bG fun h=>hno ⟨d,h⟩
  obtain⟨d,hd⟩:=hnot
  obtain⟨K,hK⟩:=Z0 (Bs:=Bs) hS x.okf x.oku Gw (x.w.at d)
  by_cases hg:∃fr' up' w' es,dx P s7 (G x.fr (x.up++c0 :: Hb)) (x.w.at d)=.go (G fr' (up'++c0 :: Hb)) w' es/\Km P S fr'/\R8 P S up'/\Kept Bs w0 w'/\x.w.heap.size<=w'.heap.size/\Ed x.w w'/\∀e∈es,Pd Bs w'.heap.size e
  ·obtain⟨fr',up',w',es,h1,h2,h3,h4,h5,h6,h7⟩:=hg
   refine⟨d,K,⟨fr',up',w',h2,h3,h4,fun hF=>hd ⟨fr',up',w',es,h1,h5,h6,h7,hF⟩⟩,fun _=>⟨fun v hs ha=>hK _ _ v hs ha,fun f u w2 es2 e2 _ _ _ _ _ _=>?_⟩,fun hu hm=>absurd ⟨hu,hm⟩ Gw⟩
   rw [h1] at e2
   injection e2 with e3 e4 e5
   simp only [G,Goroutine.mk.injEq] at e3
   obtain⟨e6,e7,_⟩:=e3
   exact⟨e6,dP e7,e4⟩
  ·refine⟨d,K,x,fun _=>⟨fun v hs ha=>hK _ _ v hs ha,fun f u w2 es2 e2 a1 a2 a3 a4 a5 a6=>absurd ⟨f,u,w2,es2,e2,a1,a2,a3,a4,a5,a6⟩ hg⟩,fun hu hm=>absurd ⟨hu,hm⟩ Gw⟩
section
variable (hS:BL P S) (x0:R7 P S Bs c0 Hb Stop w0)
noncomputable def CZ(x:R7 P S Bs c0 Hb Stop w0):R7 P S Bs c0 Hb Stop w0:=(adv hS x).choose_spec.choose_spec.choose
noncomputable def Qy(x:R7 P S Bs c0 Hb Stop w0):Nat:=(adv hS x).choose
noncomputable def Ry(x:R7 P S Bs c0 Hb Stop w0):Nat:=(adv hS x).choose_spec.choose
theorem LR(x:R7 P S Bs c0 Hb Stop w0):Adv x (Qy hS x) (Ry hS x) (CZ hS x):=(adv hS x).choose_spec.choose_spec.choose_spec
noncomputable def Je:Nat->R7 P S Bs c0 Hb Stop w0
 | 0=>x0
 | n+1=>CZ hS (Je n)
noncomputable def posOf:Nat->Nat
 | 0=>0
 | n+1=>posOf n+Ry hS (Je hS x0 n)
open Classical in
noncomputable def Rh(n:Nat)(q:Question):Nat:=
 if h:∃ij:Nat×Nat,n=posOf hS x0 ij.1+ij.2/\ij.2<Ry hS (Je hS x0 ij.1) then w0.tape (Qy hS (Je hS x0 h.choose.1)+h.choose.2) q else 0
theorem Z7{i k:Nat}(h:i<=k):posOf hS x0 i<=posOf hS x0 k:=by
 induction k with
 | zero=>
      obtain rfl:i=0:=Ab
      exact aA _
 | succ k ih=>
  rcases cO i (k+1) with Cg|hge
  ·exact aE (ih Ab) (Nat.le_add_right _ _)
  ·obtain rfl:i=k+1:=Ab
   exact aA _
theorem GA{i j:Nat}(hj:j<Ry hS (Je hS x0 i)):Rh hS x0 (posOf hS x0 i+j)=w0.tape (Qy hS (Je hS x0 i)+j):=by
 funext q
 unfold Rh
 have hex:∃ij:Nat×Nat,posOf hS x0 i+j=posOf hS x0 ij.1+ij.2/\ij.2<Ry hS (Je hS x0 ij.1):=⟨(i,j),rfl,hj⟩
 rw [dif_pos hex]
 have key:=hex.choose_spec
 generalize hex.choose=ij at key
 obtain⟨i',j'⟩:=ij
 obtain⟨h1,h2⟩:=key
 simp only at h1 h2 ⊢
 have:i=i':=by
  rcases Nat.lt_trichotomy i i' with h|h|h
  ·have:=Z7 hS x0 (show i+1<=i' from h)
   simp only [posOf] at this
   omega
  ·exact h
  ·have:=Z7 hS x0 (show i'+1<=i from h)
   simp only [posOf] at this
   omega
 subst this
 obtain rfl:j=j':=Ab
 rfl
theorem Wb{R:Ending->qq->Prop}{fr:qg}{v':qq}{val:tj}(hl:fr.leaving P v' (pd val))(hR:R (pd val) v')(hStop:∀val w v,Kept Bs w0 w->Cq Bs w v->R (pd val) v->Stop val w) :
  ∀(n i:Nat) (L:qq),runN P n (lone (Je hS x0 i).fr ((Je hS x0 i).up ++ [Ki P]) L)=.next (lone fr [Ki P] v')->Cq Bs (Je hS x0 i).w L->L.tape=Rh hS x0->L.drawn=posOf hS x0 i->False:=by
 intro n
 induction n with
 | zero=>
  intro i L hr hs ht hd
  simp only [runN,Stepped.next.injEq] at hr
  obtain⟨e1,e2,e3⟩:=Nk hr
  have ad:=LR hS (Je hS x0 i)
  generalize hx:Je hS x0 i=x at *
  have hu:x.up = []:=by
   have:=aG List.length e2
   simp at this
   exact this
  obtain⟨hm,hdf,hk,fn,hf,Gr⟩:=hl
  have hm':x.fr.mode=.returning:=by rw [e1];exact hm
  obtain⟨hout,hno⟩:=ad.last hu hm'
  have hag:Ou (x.w.at (Qy hS x)) L (Ry hS x):=fun j hj=>by
   have:=GA hS x0 (i:=i) (j:=j) (by rw [hx];exact hj)
   rw [hx] at this
   rw [ht,hd,this]
   show w0.tape _=x.w.tape _
   rw [x.kept.tape];rfl
  have hsim:Cq Bs (x.w.at (Qy hS x)) L:=hs.at _ L.drawn
  rw [←e1,←e3] at Gr
  rw [←e1] at hf
  have Dk:∀cs w,dx P s7 (G x.fr cs) w=unwind P s7 x.fr cs od w:=fun cs w=>Eg (by rw [hm'];simp)
  cases hout fn hf L hsim hag with
  | bad h v1 F7 hb=>rw [Gr] at F7;cases F7
  | panic y w1 v1 es hw hv ha Hf=>rw [Gr] at hv;cases hv
  | ok a w1 v1 es hw hv hq ha Hf=>
   rw [Gr] at hv
   injection hv with hv1 hv2
   subst hv1 hv2
   refine hno ⟨val,w1,_,?_,ha.grow,ha.same,Kd (P:=P) (fn:=x.fr.fn) (es:=#[]++es) (by simpa using Hf),hStop val w1 L ?_ ha.sim ?_⟩
   ·rw [Dk]
    simp only [unwind,x.okf.defers,hm',hf,hw,doReturn,x.okf.kind]
    simp [fw,G]
   ·exact⟨aE x.kept.grow ha.grow,fun k hk=>(ha.keep k hk).trans (x.kept.keep k hk),x.kept.same.trans ha.same,ha.wt.trans x.kept.tape,fun i o h ho=>x.kept.far i o (ha.far i o h ho) ho⟩
   ·rw [e3];exact hR
 | succ n ih=>
  intro i L hr hs ht hd
  have ad:=LR hS (Je hS x0 i)
  have Bo:CZ hS (Je hS x0 i)=Je hS x0 (i+1):=rfl
  have H9:posOf hS x0 (i+1)=posOf hS x0 i+Ry hS (Je hS x0 i):=rfl
  have htape:=fun j=>GA hS x0 (i:=i) (j:=j)
  generalize hx:Je hS x0 i=x at *
  by_cases Gw:x.up = []/\x.fr.mode=.returning
  ·obtain⟨hu,hm⟩:=Gw
   rw [hu] at hr
   exact AE x.okf hm n L v' fr hr
  ·obtain⟨hone,hnx⟩:=ad.mid Gw
   have hag:Ou (x.w.at (Qy hS x)) L (Ry hS x):=fun j hj=>by
    rw [ht,hd,htape j hj]
    show w0.tape _=x.w.tape _
    rw [x.kept.tape];rfl
   cases hone L (hs.at _ L.drawn) hag with
   | bad o v1 h=>exact runN_ended h hr
   | panic chain v1 h=>
    obtain⟨c,ec⟩:=raise_mode x.fr chain
    rw [ec] at h
    obtain⟨c',hc⟩:=DH x.up x.fr c x.okf.defers x.okf.fn (fun y hy=>⟨(x.oku y hy).1.defers,(x.oku y hy).1.fn⟩) n v1 v' fr [Ki P] (Qj h hr)
    rw [hl.1] at hc
    cases hc
   | go fr' up' w' v1 es hw hv hf hu ha Hf=>
    obtain⟨e1,e2,e3⟩:=hnx fr' up' w' es hw hf hu ⟨aE x.kept.grow ha.grow,fun k hk=>(ha.keep k hk).trans (x.kept.keep k hk),x.kept.same.trans ha.same,ha.wt.trans x.kept.tape,fun i o h ho=>x.kept.far i o (ha.far i o h ho) ho⟩ ha.grow ha.same Hf
    rw [Bo] at e1 e2 e3
    refine ih (i+1) v1 ?_ ?_ ?_ ?_
    ·rw [e1,e2];exact Qj hv hr
    ·rw [e3];exact ha.sim
    ·rw [ha.vt,ht]
    ·rw [ha.vd,hd,H9]
end
end
section
variable {P:me} {α β:Type} {Q:β->Prop} {A:Nat->Prop}
def CF(P:me)(s d:s8):Bool:=
 match P.underlying s,P.underlying d with
 | some (.int _),lp (.int _)=>s7
 | some .string,lp (.slice _)=>s7
 | some (.slice _),lp .string=>s7
 | some .string,lp .string=>s7
 | _,_=>vp
theorem T.stringToRunes(e:s8)(s:ByteArray):T P (ky e s):=by
 unfold ky
 exact tg
theorem T.runesToString(x:tj):T P (qe x):=by
 unfold qe
 exact O7z
theorem T.convert(s d:s8)(x:tj)(h:CF P s d=s7):T P (convert s d x):=by
 unfold Go.convert
 refine T.underlyingThen fun us hs=>T.underlyingThen fun ud hd=>?_
 unfold CF at h
 rw [hs,hd] at h
 have fin:∀e,T P (do
   match ←Go.underlying e with
   | .int .u8=>Conv.bytesToString x
   | .int .i32=>qe x
   | _=>Go.stuck "Convert: a slice of what to string?"):=fun e=>by
  repeat' first|(with_reducible first|exact T.bytesToString _|exact T.runesToString _|exact T.underlying _|exact T.stuck _|refine T.then ?_ (fun _=>?_))|dsimp only|split
 cases us <;> cases ud <;> first
  | contradiction
  | (cases x <;> first|contradiction|exact T.pure _|exact T.floatToInt _ _ _|exact T.noEntry _|exact fin _|(repeat' first|contradiction|(with_reducible first|exact T.stringToBytes _ _|exact T.stringToRunes _ _|exact T.pure _|exact T.observed|exact T.noEntry _|exact T.underlying _|exact T.stuck _|refine T.then ?_ (fun _=>?_))|dsimp only|split))
theorem T.holdsDoom{a:Addr}{n:Nat}{f:Bool->Sem β}(hd:∀b,Ej P (fun _=>False) (f b)):T P (re a n >>= f):=fun A=>by
 unfold re
 rw [bind_assoc]
 refine .inl fun x=>?_
 cases x with
 | none=>exact hd vp
 | some x=>exact hd _
theorem T.mayShareThen{s l n:Nat}{b:Option Addr}{x:tj}{f:Bool->Sem β}(hd:∀b,Ej P (fun _=>False) (f b))(ht:∀b,T P (f b)):T P (np s l n b x >>= f):=by
 unfold np
 cases b with
 | none=>
  dsimp only
  simp only [pure_bind,Bool.not_true,aV,bQ]
  split
  ·rw [bind_assoc]
   exact T.holdsDoom fun _=>hd _
  ·rw [pure_bind];exact ht _
 | some a=>
  dsimp only
  simp only [bind_assoc,pure_bind]
  refine T.holdsDoom fun h=>?_
  intro z
  change Ej P (fun _=>False) (Sem.bind (if(!(h && !z))=s7 then _ else _) f)
  refine Ej.bind (R':=fun _=>True) (fun b _=>hd b) _ ?_
  split
  ·trivial
  ·split
   ·intro z
    cases z <;> trivial
   ·trivial
set_option maxHeartbeats 8000000 in
theorem T.append(ts:Array s8)(t:s8)(xs:Array tj):T P (yb ts t xs):=by
 unfold yb
 split
 ·refine T.then (T.underlying _) fun d=>?_
  split
  ·split
   ·refine T.then (T.sizeOf _) fun size=>?_
    dsimp only
    split
    ·refine T.then (T.underlying _) fun u=>T.then (T.pure _) fun zeros=>?_
     exact Ua1
    ·refine T.then (T.pure _) fun zeros=>?_
     exact Ua1
   ·exact T.stuck _
  ·exact T.stuck _
 ·exact T.stuck _
theorem T.listFoldlM{γ δ:Type}{f:δ->γ->Sem δ}(h:∀x y,T P (f x y)):∀(l:List γ) (b:δ),T P (l.foldlM f b)
 | [],b=>by rw [List.foldlM_nil];exact T.pure _
 | x :: l,b=>by rw [List.foldlM_cons];exact T.then (h _ _) fun _=>T.listFoldlM h l _
theorem T.min2(x y:tj):T P (Builtin.min2 x y):=by
 unfold Builtin.min2
 exact O83
theorem T.max2(x y:tj):T P (Builtin.max2 x y):=by
 unfold Builtin.max2
 exact O83
theorem T.min(ts:Array s8)(t:s8)(xs:Array tj):T P (Builtin.min_ ts t xs):=by
 unfold Builtin.min_
 split
 ·exact T.stuck _
 ·exact T.listFoldlM (fun _ _=>T.min2 _ _) _ _
theorem T.max(ts:Array s8)(t:s8)(xs:Array tj):T P (Builtin.max_ ts t xs):=by
 unfold Builtin.max_
 split
 ·exact T.stuck _
 ·exact T.listFoldlM (fun _ _=>T.max2 _ _) _ _
theorem T.len(ts:Array s8)(t:s8)(xs:Array tj):T P (Builtin.len_ ts t xs):=by
 unfold Builtin.len_
 exact Vkz
theorem T.cap(ts:Array s8)(t:s8)(xs:Array tj):T P (Builtin.cap_ ts t xs):=by
 unfold Builtin.cap_
 exact Vkz
theorem T.followBlind:∀(l:List FieldStep) (t:s8) (x:Option tj),T P (followBlind l t x):=by
 intro l
 induction l with
 | nil=>exact fun _ _=>T.pure _
 | cons s l ih=>
  intro t x
  unfold Go.followBlind
  repeat' first|(with_reducible first|exact T.pure _|exact T.stuck _|exact T.underlying _|exact T.part _ _ _|exact ih _ _|refine T.then ?_ (fun _=>?_))|dsimp only|split
theorem T.nilAhead:∀(n:Nat) (t:s8) (v:tj) (s:String),T P (nilAhead n t v s):=by
 intro n
 induction n with
 | zero=>exact fun _ _ _=>T.pure _
 | succ n ih=>
  intro t v s
  unfold Go.nilAhead
  repeat' first|(with_reducible first|exact T.pure _|exact T.stuck _|exact T.typeInfo _|exact T.underlying _|exact T.followBlind _ _ _|exact ih _ _ _|refine T.then ?_ (fun _=>?_))|dsimp only|split
def P5:vh->Bool
 | .const (.pointer od)=>s7
 | _=>vp
def SZ(P:me)(t:s8)(x y:vh):Bool:=
 Vk P 6 t || ((match P.underlying t with|some (.pointer _)=>s7|_=>vp) && (P5 x || P5 y))
def Qt:Builtin->Bool
 | .append|.copy|.len|.cap|.min|.max=>s7
 | _=>vp
structure Dv where
 at_:du->List Nat
 fn:Option du
def Dv.cv(D:Dv):tj:=match D.fn with|some g=>.func (.func g) #[] #[]|none=>yj
def DL(D:Dv)(fn f:du)(args:Array vh):Bool:=
 (D.at_ f).all fun j=>match args[j]? with
  | some (.tmp t)=>(D.at_ fn).contains t
  | some (.func g)=>D.fn == lp g
  | some _=>vp
  | none=>s7
def Tw:List String:=["internal/bytealg.CountString", "internal/bytealg.IndexByteString", "internal/bytealg.IndexString", "internal/bytealg.abigen_runtime_cmpstring"]
def VQ(P:me)(f:du):Bool:=
 match P.funcs[f]? with
 | some fn=>fn.body.isNone && fn.origin == "" && Tw.contains fn.name
 | none=>vp
theorem T.loadBytes:∀(n:Nat) (a:Addr) (acc:ByteArray),T P (Extern.Bytes.loadBytes a n acc)
 | 0,_,_=>T.pure _
 | n+1,a,acc=>T.then (T.load a .plain) fun v=>by
  split
  ·exact T.loadBytes n _ _
  ·exact T.stuck _
theorem T.bytesOf(v:tj):T P (qp v):=by
 unfold qp
 split <;> first|exact T.pure _|exact T.loadBytes _ _ _|exact T.stuck _
theorem T.asByte(v:tj):T P (gn v):=by
 unfold gn
 exact Wie
theorem T.xcount(as:Array tj):T P (su as):=by
 unfold su
 rcases as with⟨l⟩
 rcases l with _|⟨x,_|⟨y,_|⟨z,l⟩⟩⟩
 ·exact T.stuck _
 ·exact T.stuck _
 ·exact T.then (T.bytesOf _) fun _=>T.then (T.asByte _) fun _=>T.pure _
 ·exact T.stuck _
theorem T.xindexByte(as:Array tj):T P (ir as):=by
 unfold ir
 rcases as with⟨l⟩
 rcases l with _|⟨x,_|⟨y,_|⟨z,l⟩⟩⟩
 ·exact T.stuck _
 ·exact T.stuck _
 ·refine T.then (T.bytesOf _) fun _=>T.then (T.asByte _) fun _=>?_
  split <;> exact T.pure _
 ·exact T.stuck _
theorem T.globalAddr(s:String):T P (Go.globalAddr s):=by
 unfold Go.globalAddr
 refine T.then T.program fun p=>?_
 exact Wie
theorem T.xindex(as:Array tj):T P (bm as):=by
 unfold bm
 rcases as with⟨l⟩
 rcases l with _|⟨x,_|⟨y,_|⟨z,l⟩⟩⟩
 ·exact T.stuck _
 ·exact T.stuck _
 ·refine T.then (T.bytesOf _) fun _=>T.then (T.bytesOf _) fun _=>?_
  refine T.then (T.then (T.globalAddr _) fun _=>T.then (T.load _ _) fun _=>T.asInt _) fun _=>?_
  repeat' first|(with_reducible first|exact T.pure _|exact T.noEntry _|refine T.then ?_ (fun _=>?_))|dsimp only|split
 ·exact T.stuck _
theorem T.xcompare(as:Array tj):T P (ie as):=by
 unfold ie
 rcases as with⟨l⟩
 rcases l with _|⟨x,_|⟨y,_|⟨z,l⟩⟩⟩
 ·exact T.stuck _
 ·exact T.stuck _
 ·exact T.then (T.bytesOf _) fun _=>T.then (T.bytesOf _) fun _=>T.pure _
 ·exact T.stuck _
theorem NM{fn:Func}(ho:fn.origin = "")(hn:fn.name∈Tw):Extern.findNext fn=od∧(fn.name == "runtime.NumGoroutine")=vp∧∃e,Extern.find fn=lp e∧∀as,T P (e as):=by
 simp only [Tw,bI,List.not_mem_nil,or_false] at hn
 unfold Extern.findNext Extern.find
 rcases hn with h|h|h|h <;> rw [ho,h]
 ·exact⟨Aa,Aa,su,Aa,T.xcount⟩
 ·exact⟨Aa,Aa,ir,Aa,T.xindexByte⟩
 ·exact⟨Aa,Aa,bm,Aa,T.xindex⟩
 ·exact⟨Aa,Aa,ie,Aa,T.xcompare⟩
def MH(P:me)(S:du->Bool)(D:Dv)(fn:du)(c:Call):Bool:=
 match c.callee with
 | .builtin b=>Qt b || (match b,c.argTypes[0]? with|.delete,lp t=>Rt P t|_,_=>vp)
 | .value (.func f)=>(S f && DL D fn f c.args) || VQ P f
 | .value (.tmp t)=>(D.at_ fn).contains t
 | _=>vp
def NA(D:Dv)(fn:du)(o:gz):Bool:=match o.dst with
 | some d=>!(D.at_ fn).contains d || (match o.op with|.move (.tmp t)=>(D.at_ fn).contains t|_=>vp)
 | none=>s7
def VU(P:me)(S:du->Bool)(D:Dv)(fn:du)(o:gz):Bool:=
 match o.op with
 | .move _|.assign _|.pick _ _ _|.alloc _|.box _ _|.build _ _|.buildSlice _ _ _|.load _ _|.store _ _ _|.nilCheck _|.unOp _ _ _|.makeFunc _ _ _|.makeSlice _ _ _|.slice _ _ _ _ _|.fieldAddr _ _ _|.field _ _ _|.indexAddr _ _ _|.index _ _ _|.extract _ _=>s7
 | .binOp op t x y _=>(match op with|.eql=>SZ P t x y|.neq=>SZ P t x y|_=>s7)
 | .convert s d _=>CF P s d
 | .call c=>MH P S D fn c
 | .makeMap _ _|.range _ _|.next _ _|.entry _=>s7
 | .lookup t _ _ _|.mapUpdate t _ _ _|.insert t _ _ _=>Rt P t
 | _=>vp
def Oq(P:me)(S:du->Bool)(D:Dv)(fn:du)(o:gz):Bool:=VU P S D fn o && NA D fn o
def Ky(D:Dv)(f:du)(tmps:Array tj):Prop:=∀j,j∈D.at_ f->tmps.getD j yj=D.cv∨tmps.getD j yj=yj
def codeOk(P:me)(S:du->Bool)(D:Dv)(fn:du):s9->Bool
 | .skip=>s7
 | .region _ ops _=>ops.all (Oq P S D fn)
 | .seq a b=>codeOk P S D fn a && codeOk P S D fn b
 | .cond _ a b=>codeOk P S D fn a && codeOk P S D fn b
 | .block _ b=>codeOk P S D fn b
 | .loop b=>codeOk P S D fn b
 | .rangeFunc _ _ _ _=>vp
 | .exit _=>s7
 | .scope b=>codeOk P S D fn b
 | .label _=>s7
 | .goto _=>s7
 | .ret=>s7
 | .refuse _=>vp
theorem T.equalOk{fr:qg}{t:s8}{x y:vh}(h:SZ P t x y=s7):T P (Op.equal t (fr.eval x) (fr.eval y)):=by
 unfold SZ at h
 rw [eS] at h
 rcases h with h|h
 ·exact T.equalIn 6 t h _ _ _
 ·rw [bD,eS] at h
  obtain⟨h1,h2⟩:=h
  cases hu:P.underlying t with
  | none=>rw [hu] at h1;cases h1
  | some u=>
   rw [hu] at h1
   cases u <;> first|contradiction|skip
   refine T.equalNil t hu ?_
   rcases h2 with h2|h2
   ·left
    unfold P5 at h2
    split at h2
    ·rfl
    ·cases h2
   ·right
    unfold P5 at h2
    split at h2
    ·rfl
    ·cases h2
theorem UH{D:Dv}{fn:du}{o:gz}(h:NA D fn o=s7)(tmps:Array tj)(v:tj)(hr:Ky D fn tmps)(hv:∀t,o.op=.move (.tmp t)->v=yj∨v=tmps.getD t yj):Ky D fn (Gc o.dst v tmps):=by
 intro j hj
 have h0:=hr j hj
 unfold NA at h
 unfold Gc
 cases hd:o.dst with
 | none=>exact h0
 | some d=>
  rw [hd] at h
  dsimp only at h ⊢
  rw [cM] at h0 ⊢
  by_cases Cu:d=j
  ·subst Cu
   have hv':v=D.cv∨v=yj:=by
    rw [eS] at h
    rcases h with h|h
    ·simp [hj] at h
    ·cases ho:o.op with
     | move x=>
      rw [ho] at h
      cases x with
      | tmp t=>
       rcases hv t ho with e|e
       ·exact .inr e
       ·rw [e];exact hr t Ai
      | _=>cases h
     | _=>rw [ho] at h;cases h
   rw [bF,aQ rfl]
   split
   ·exact hv'
   ·exact .inr rfl
  ·rw [aD Cu]
   exact h0
def WQ(S:du->Bool)(D:Dv):Prop:=∀g,D.fn=lp g->S g=s7/\D.at_ g = []
theorem PC{D:Dv}{fn g:du}{fr:qg}{args:Array vh}(h:DL D fn g args=s7)(hr:Ky D fn fr.tmps):Ky D g (bz P g (args.map fr.eval) .normal).tmps:=by
 intro j hj
 unfold DL at h
 have h1:=eN.1 h j hj
 have e0:∃rest:Array tj,(bz P g (args.map fr.eval) .normal).tmps=args.map fr.eval++rest/\∀k,rest.getD k yj=yj:=by
  unfold bz
  cases hg:P.funcs[g]? with
  | none=>exact⟨_,rfl,fun k=>by rw [cM,uw];split <;> rfl⟩
  | some fn'=>exact⟨_,rfl,fun k=>by rw [cM,uw];split <;> rfl⟩
 obtain⟨rest,e1,e2⟩:=e0
 rw [e1]
 rw [cM]
 cases ha:args[j]? with
 | none=>
  have hge:args.size<=j:=by simpa using ha
  rw [cL (by simpa using hge)]
  right
  have:=e2 (j - (args.map fr.eval).size)
  rwa [cM] at this
 | some x=>
  have Cg:=(aF.1 ha).1
  rw [dK (by simpa using Cg),bS,ha]
  rw [ha] at h1
  cases x with
  | tmp t=>exact hr t (by simpa using h1)
  | func f'=>
   left
   have:D.fn=lp f':=by simpa using h1
   unfold Dv.cv
   rw [this]
   rfl
  | _=>cases h1
theorem OP{S:du→Bool}{D:Dv}{fn:du}{Sp:du→Prop}(hS:∀f,S f=s7→∃fn c,P.funcs[f]? = lp fn∧(fn.name == "runtime.NumGoroutine")=vp∧fn.body=lp c)(hSp:∀f,S f=s7→Sp f)(hcv:WQ S D){o:gz}(h0:Oq P S D fn o=s7):Sj P ⟨Sp,Ky D⟩ fn o:=by
 unfold Oq at h0
 rw [bD] at h0
 obtain⟨h,hd⟩:=h0
 refine⟨fun fr Ga=>?_,UH hd⟩
 unfold VU at h
 unfold execOp
 generalize ho:o.op=op at h
 cases op <;> first|contradiction|dsimp only at h ⊢
 case move=>exact trivial
 case assign=>exact trivial
 case pick=>exact T.bind (T.asBool _) fun _ _=>trivial
 case alloc=>exact T.val (T.alloc _ _ _)
 case box=>exact T.val (T.box _ _)
 case build=>exact T.val (T.build _ _)
 case buildSlice=>exact T.val (T.buildSlice _ _ _)
 case load=>exact T.val (T.loadAt _ _)
 case store=>exact T.unit (T.storeAt _ _ _)
 case unOp=>exact T.val (T.unary _ _)
 case makeFunc=>exact T.val (T.makeFunc _ _ _)
 case makeSlice=>exact T.val (T.makeSlice _ _ _)
 case slice=>exact T.val (T.sliceAt _ _ _ _ _)
 case fieldAddr=>exact T.val (T.fieldAt _ _ _)
 case field=>exact T.val (T.field _ _ _)
 case indexAddr=>exact T.val (T.indexAt _ _ _)
 case index=>exact T.val (T.index _ _ _)
 case extract=>exact T.val (T.extract _ _)
 case convert=>exact T.val (T.convert _ _ _ h)
 case makeMap=>exact T.val (T.makeMap _ _)
 case range=>exact T.val (T.range _ _)
 case next=>exact T.val (T.next _ _ _)
 case entry=>exact T.val (T.entry _)
 case lookup=>exact T.val (T.lookup _ _ _ _ h)
 case mapUpdate=>exact T.unit (T.mapUpdate _ _ _ _ h)
 case insert=>exact T.unit (T.mapUpdate _ _ _ _ h)
 case binOp b t x y yt=>
  refine T.val (T.then (T.eqGuard _ _ _ _ _ _) fun _=>T.binOp _ _ _ _ fun hb=>?_)
  rcases hb with rfl|rfl
  ·exact T.equalOk h
  ·exact T.equalOk h
 case nilCheck x=>
  split
  ·exact .inr ⟨_,rfl⟩
  ·exact .inr ⟨_,rfl⟩
  ·exact .inr ⟨_,rfl⟩
  ·split
   ·exact .inr ⟨_,rfl⟩
   ·refine T.bind T.program fun p A=>T.bind (T.nilAhead _ _ _ _) fun b A=>?_
    split
    ·exact .inl trivial
    ·exact trivial
   ·exact trivial
  ·exact trivial
 case call c=>
  unfold MH at h
  unfold resolve
  cases hc:c.callee with
  | builtin b=>
   rw [hc] at h
   dsimp only at h
   show Ev P (Ta P ⟨Sp,Ky D⟩) (invoke (.builtin b c.argTypes o.type _) _) _
   unfold invoke builtin
   cases b <;> first
    | (exfalso;revert h;cases c.argTypes[0]? <;> simp [Qt];done)
    | exact T.val (T.append _ _ _)
    | exact T.val (T.copy _ _ _)
    | exact T.val (T.len _ _ _)
    | exact T.val (T.cap _ _ _)
    | exact T.val (T.min _ _ _)
    | exact T.val (T.max _ _ _)
    | exact T.val (T.delete _ _ _ fun m hm=>by rw [hm] at h;simpa [Qt] using h)
  | value f=>
   rw [hc] at h
   cases f with
   | func g=>
    dsimp only at h
    rw [eS] at h
    rcases h with h|h
    rotate_left
    ·show Ev P (Ta P ⟨Sp,Ky D⟩) (ju g (#[]++c.args.map fr.eval++#[])) _
     unfold VQ at h
     unfold ju
     show Ev P (Ta P ⟨Sp,Ky D⟩) (match P.funcs[g]? with|none=>_|some fn=>_) _
     cases hg:P.funcs[g]? with
     | none=>rw [hg] at h;cases h
     | some fn'=>
      rw [hg] at h
      simp only [bD] at h
      obtain⟨⟨hb,ho⟩,hn⟩:=h
      obtain⟨h1,h2,e,h3,h4⟩:=NM (P:=P) (fn:=fn') (by simpa using ho) (by simpa using hn)
      dsimp only
      rw [h2,hb,h1,h3]
      exact T.bind (T.externMark g) fun _ A=>T.bind (h4 _) fun _ _=>trivial
    rw [bD] at h
    obtain⟨h,hp⟩:=h
    obtain⟨fn',cd,h1,h2,h3⟩:=hS g h
    have hb:fn'.body.isNone=vp:=by rw [h3];rfl
    show Ev P (Ta P ⟨Sp,Ky D⟩) (ju g (#[]++c.args.map fr.eval++#[])) _
    rw [cJ,Array.empty_append]
    unfold ju
    show Ev P (Ta P ⟨Sp,Ky D⟩) (match P.funcs[g]? with|none=>_|some fn=>_) _
    rw [h1]
    dsimp only
    rw [h2,hb]
    exact⟨hSp g h,PC hp Ga⟩
   | tmp t=>
    dsimp only at h ⊢
    rcases Ga t Ai with e|e
    ·have e':fr.eval (.tmp t)=D.cv:=e
     rw [e']
     unfold Dv.cv
     cases hD:D.fn with
     | none=>exact .inl trivial
     | some g=>
      obtain⟨hg,hgD⟩:=hcv g hD
      obtain⟨fn',cd,h1,h2,h3⟩:=hS g hg
      have hb:fn'.body.isNone=vp:=by rw [h3];rfl
      dsimp only
      show Ev P (Ta P ⟨Sp,Ky D⟩) (ju g _) _
      unfold ju
      show Ev P (Ta P ⟨Sp,Ky D⟩) (match P.funcs[g]? with|none=>_|some fn=>_) _
      rw [h1]
      dsimp only
      rw [h2,hb]
      exact⟨hSp g hg,fun j hj=>by rw [hgD] at hj;cases hj⟩
    ·have e':fr.eval (.tmp t)=yj:=e
     rw [e']
     exact .inl trivial
   | _=>cases h
  | invoke r n=>rw [hc] at h;cases h
theorem YN{S:du→Bool}{D:Dv}{fn:du}{Sp:du→Prop}(hS:∀f,S f=s7→∃fn c,P.funcs[f]? = lp fn∧(fn.name == "runtime.NumGoroutine")=vp∧fn.body=lp c)(hSp:∀f,S f=s7→Sp f)(hcv:WQ S D):∀{c:s9},codeOk P S D fn c=s7→BK P ⟨Sp,Ky D⟩ fn c:=by
 intro c
 induction c with
 | region id ops d=>
  intro h i o ho
  simp only [codeOk] at h
  exact OP hS hSp hcv (dO.1 h o (dJ ho))
 | seq a b iha ihb=>intro h;simp only [codeOk,bD] at h;exact⟨iha h.1,ihb h.2⟩
 | cond c a b iha ihb=>intro h;simp only [codeOk,bD] at h;exact⟨iha h.1,ihb h.2⟩
 | block id b ih=>intro h;exact ih h
 | loop b ih=>intro h;exact ih h
 | scope b ih=>intro h;exact ih h
 | rangeFunc f ps a b iha ihb=>intro h;cases h
 | refuse s=>intro h;cases h
 | _=>intro _;trivial
def Sr(P:me)(L:List du)(D:Dv)(f:du):Bool:=
 match P.funcs[f]? with
 | some fn=>!(fn.name == "runtime.NumGoroutine") && (match fn.body with|some c=>codeOk P (L.contains ·) D f c|none=>vp)
 | none=>vp
def DC:Dv:=⟨fun _=>[],od⟩
def NU(P:me)(L:List du)(f:du):Bool:=Sr P L DC f
def FI(L:List du)(D:Dv):Env:=⟨(·∈L),Ky D⟩
def env(L:List du):Env:=FI L DC
theorem Bg{L:List du}(f:du)(tmps:Array tj):(env L).reg f tmps:=fun j hj=>by cases hj
theorem FT{L:List du}{D:Dv}(hcv:WQ (L.contains ·) D)(h:∀f,f∈L->Sr P L D f=s7):BL P (FI L D):=by
 have key:∀f,f∈L→∃fn c,P.funcs[f]? = lp fn∧(fn.name == "runtime.NumGoroutine")=vp∧fn.body=lp c∧codeOk P (L.contains ·) D f c=s7:=fun f hf=>by
  have:=h f hf
  unfold Sr at this
  cases h1:P.funcs[f]? with
  | none=>rw [h1] at this;cases this
  | some fn=>
   rw [h1] at this
   simp only [bD,Bool.not_eq_true'] at this
   obtain⟨h2,h3⟩:=this
   cases h4:fn.body with
   | none=>rw [h4] at h3;cases h3
   | some c=>rw [h4] at h3;exact⟨fn,c,rfl,h2,h4,h3⟩
 intro f hf
 obtain⟨fn,c,h1,h2,h3,h4⟩:=key f hf
 refine⟨fn,c,h1,h2,h3,YN (S:=(L.contains ·)) (fun g hg=>?_) (fun g hg=>by simpa using hg) hcv h4⟩
 obtain⟨fn',c',a1,a2,a3,_⟩:=key g (by simpa using hg)
 exact⟨fn',c',a1,a2,a3⟩
theorem YP{L:List du}(h:∀f,f∈L->NU P L f=s7):BL P (env L):=FT (fun g e=>by cases e) h
end
open Classical in
noncomputable def N7(Bs:Nat->Prop)(i:Nat)(o:Obj):Obj:=
 if Bs i then(match o with|.cells _ e fz=>.cells #[] e fz|_=>dead) else if B7 o then o else dead
noncomputable def blank(Bs:Nat->Prop)(w:qq)(tape:Nat->Question->Nat)(d:Nat):qq:={ w with heap:=w.heap.mapIdx (N7 Bs),tape:=tape,drawn:=d }
section
variable {P:me} {S:Env} {Bs:Nat->Prop}
def Em(w:qq)(i:Nat):Prop:=(∃c e fz,w.heap[i]? = lp (.cells c e fz))∨∃o,w.heap[i]? = lp o/\o.isChan=s7
theorem Iz{w:qq}(hc:∀i,Bs i->Em w i)(tape:Nat->Question->Nat)(d:Nat):Cq Bs w (blank Bs w tape d):=by
 refine⟨by simp [blank],fun i=>?_,rfl,rfl⟩
 have e:(blank Bs w tape d).heap[i]? = (w.heap[i]?).map (N7 Bs i):=by simp [blank]
 rw [e]
 by_cases hb:Bs i
 ·rcases hc i hb with⟨c,t,fz,h⟩|⟨o,h,ho⟩
  ·exact .inr (.inl ⟨hb,c,t,fz,h,by rw [h];simp [N7,hb]⟩)
  ·refine .inr (.inr (.inr ⟨hb,⟨o,h,ho⟩,?_⟩))
   rw [h]
   cases o <;> first|(simp [Obj.isChan] at ho;done)|simp [N7,hb]
 ·cases h:w.heap[i]? with
  | none=>exact .inl ⟨hb,rfl,fun o ho=>by cases ho⟩
  | some o=>
   by_cases ho:B7 o
   ·exact .inl ⟨hb,by simp [N7,hb,ho],fun x hx=>by obtain rfl:=aC hx;exact ho⟩
   ·exact .inr (.inr (.inl ⟨hb,⟨o,rfl,ho⟩,by simp [N7,hb,ho]⟩))
theorem Oj{w:qq}(hc:∀i,Bs i->∃c e fz,w.heap[i]? = lp (.cells c e fz))(tape:Nat->Question->Nat)(d:Nat):Cq Bs w (blank Bs w tape d):=Iz (fun i hi=>.inl (hc i hi)) tape d
theorem carry(hS:BL P S){f:du}(hf:S f){Shun:Loc->Prop}(hS1:∀a,Shun (.cell a)->Bs a.block)(hS2:∀r,Shun (.obj r)->Bs r){w:qq}(hc:∀i,Bs i->∃c e fz,w.heap[i]? = lp (.cells c e fz)){args:Array tj}(Ga:S.reg f (bz P f args .normal).tmps){R:Ending->qq->Prop}(hR1:∀c v,¬R (.panicked c) v)(hR2:∀v,¬R .outgrown v)(H:∀v,Cq Bs w v->Calls P f args v R){Post:tj->qq->Prop} :
  Pc P Post f args Shun w (fun val w' Sh=>Sh=Shun/\Kept Bs w w'/\∃v',Cq Bs w' v'/\R (pd val) v'):=by
 obtain⟨fn',c,h1,Fo,h2,h3⟩:=hS f hf
 refine⟨fn',c,h1,Fo,h2,fun c0 Hb Bo=>?_⟩
 refine Y85 ?_;intro henter
 rw [henter]
 refine Pe.ea (up:=[]) (Stop:=fun val w'=>Kept Bs w w'/\∃v',Cq Bs w' v'/\R (pd val) v') hS1 hS2 (fun val w' Dk=>Bo val w' Shun ⟨rfl,Dk⟩) ?_
 refine bG fun hno=>?_
 let x0:R7 P S Bs c0 Hb (fun val w'=>Kept Bs w w'/\∃v',Cq Bs w' v'/\R (pd val) v') w:=⟨bz P f args .normal,[],w,(Mq hS hf args Ga).1,(fun _ h=>by cases h),Kept.refl w,hno⟩
 have hs0:=Oj hc (Rh hS x0) 0
 obtain⟨e,v',fr,hR,hcomes,_,hl⟩:=H _ hs0 [Ki P]
 cases e with
 | panicked ch=>exact hR1 ch v' hR
 | outgrown=>exact hR2 v' hR
 | returned val=>
  obtain⟨n,hn⟩:=hcomes
  exact Wb hS x0 hl hR (fun val w' v hk hs hr=>⟨hk,v,hs,hr⟩) n 0 (blank Bs w (Rh hS x0) 0) hn hs0 rfl rfl
end
def app(fr:qg)(k:List r8):qg:={ fr with todo:=fr.todo++k }
section
variable {P:me} {S:Env} {Bs:Nat->Prop}
def Aar(fr:qg):Prop:=∃ops i l t,fr.todo=.inRegion ops (i :: l) :: t
def AtEnd(fr:qg):Prop:=fr.mode=.returning∨fr.todo = []∨∃id t,fr.todo=.code (.exit id) :: t/\xt id t=od
end
section
variable {P:me} {S:Env} {Bs:Nat->Prop}
inductive Vy(P:me)(Bs:Nat->Prop)(k:List r8)(z:List qg)(Stop:qg->qq->Prop):Option (qg×List qg)->qg->qq->Prop
 | stop {fr:qg} {w:qq} (hend:AtEnd fr) (h:Stop fr w):Vy P Bs k z Stop od fr w
 | base {b:qg} {w:qq} (x:Nat->Option (qg×List qg)) (b':Nat->qg) (w':Nat->qq) (es:Nat->Array Event)
   (h:∀d,dx P s7 (G (app b k) z) (w.at d)=.go (match x d with|none=>G (app (b' d) k) z|some (f,up)=>G f (up++app (b' d) k :: z)) (w' d) (es d)/\w.heap.size<=(w' d).heap.size/\Ed w (w' d)/\∀e∈es d,Pd Bs (w' d).heap.size e)
   (hn:∀d,Vy P Bs k z Stop (x d) (b' d) (w' d)):Vy P Bs k z Stop od b w
 | inner {fr b:qg} {up:List qg} {w:qq} (x:Nat->Option (qg×List qg)) (b':Nat->qg) (w':Nat->qq) (es:Nat->Array Event)
   (h:∀d,dx P s7 (G fr (up++app b k :: z)) (w.at d)=.go (match x d with|none=>G (app (b' d) k) z|some (f,up)=>G f (up++app (b' d) k :: z)) (w' d) (es d)/\w.heap.size<=(w' d).heap.size/\Ed w (w' d)/\∀e∈es d,Pd Bs (w' d).heap.size e)
   (hn:∀d,Vy P Bs k z Stop (x d) (b' d) (w' d)):Vy P Bs k z Stop (lp (fr,up)) b w
end
section
variable {P:me} {S:Env} {Bs:Nat->Prop} {k:List r8} {z:List qg} {Stop:qg->qq->Prop} {w0:qq} {f0:du}
def OkX(P:me)(S:Env)(x:Option (qg×List qg))(b:qg):Prop:=match x with|none=>True|some (f,up)=>Km P S f/\R8 P S up/\b.mode=.run/\Aar b/\∀y,Ri b y
structure Aao(P:me)(S:Env)(Bs:Nat->Prop)(k:List r8)(z:List qg)(Stop:qg->qq->Prop)(w0:qq)(f0:du) where
 x:Option (qg×List qg)
 b:qg
 w:qq
 okb:Km P S b
 okx:OkX P S x b
 bfn:b.fn=f0
 kept:Kept Bs w0 w
 not:¬Vy P Bs k z Stop x b w
end
section
variable {P:me} {S:Env} {Bs:Nat->Prop} {k:List r8} {z:List qg} {Stop:qg->qq->Prop} {w0:qq} {f0:du}
section
variable (hS:BL P S) (kl:List r8) (hg:∀l,gotoIn l kl=od) (x0:Aao P S Bs k z Stop w0 f0)
open Classical in
end
def Sw(P:me)(Post:tj->qq->Prop)(Shun:Loc->Prop)(b:qg)(k:List r8)(z:List qg):nq->Act->qq->Prop
 | .normal,a,w=>EA P Post Shun (G (b.at a k) z) w
 | .exit id,a,w=>∃k',xt id k=lp k'/\EA P Post Shun (G (b.at a k') z) w
 | .ret,a,w=>∀todo,EA P Post Shun (G { b.at a todo with mode:=.returning } z) w
 | _,_,_=>False
end
def AW(P:me)(Post:tj->qq->Prop)(fn:du)(c:s9)(Q:nq->Act->qq->(Loc->Prop)->Prop)(a:Act)(w:qq)(Shun:Loc->Prop):Prop:=
 ∀(b:qg) (k:List r8) (z:List qg),b.fn=fn->b.kind=.normal->(∀e a' w' Sh,Q e a' w' Sh->Sw P Post Sh b k z e a' w')->EA P Post Shun (G (b.at a (.code c :: k)) z) w
def Xs(P:me)(Post:tj->qq->Prop)(fn:du)(ops:Array gz)(l:List Nat)(Q:nq->Act->qq->(Loc->Prop)->Prop)(a:Act)(w:qq)(Shun:Loc->Prop):Prop:=
 ∀(b:qg) (k:List r8) (z:List qg),b.fn=fn->b.kind=.normal->(∀e a' w' Sh,Q e a' w' Sh->Sw P Post Sh b k z e a' w')->EA P Post Shun (G (b.at a (.inRegion ops l :: k)) z) w
section
variable {P:me} {Post:tj->qq->Prop} {fn:du} {Q:nq->Act->qq->(Loc->Prop)->Prop} {a:Act} {w:qq} {Shun:Loc->Prop}
theorem EA.ctl{g g':gq}(hr:g.status=.running)(h:∀w,dx P s7 g w=.go g' w)(hE:EA P Post Shun g' w):EA P Post Shun g w:=
 EA.goes (n:=1) (Goes.step hr fun w₁ r=>by rw [h,goes_go];exact⟨(Ln Shun).idle _,EA.stop (hE.rel r)⟩)
theorem Sw.push{b:qg}{x:r8}{k:List r8}{z:List qg}{e:nq}{a:Act}{w:qq}(hx:x.plain=s7)(he:e≠.normal)(h:Sw P Post Shun b k z e a w):Sw P Post Shun b (x :: k) z e a w:=by
 exact M9m
theorem Qo{c:s9}{Q':nq->Act->qq->(Loc->Prop)->Prop}(h:AW P Post fn c Q a w Shun)(hq:∀e a w S,Q e a w S->Q' e a w S):AW P Post fn c Q' a w Shun:=
 fun b k z hb hk hc=>h b k z hb hk fun e a' w' S q=>hc e a' w' S (hq _ _ _ _ q)
theorem QT(h:Q .normal a w Shun):AW P Post fn .skip Q a w Shun:=fun b k z _ _ hc=>EA.ctl rfl (fun _=>stepG_skip) (hc _ _ _ _ h)
theorem VF(h:Q .ret a w Shun):AW P Post fn .ret Q a w Shun:=fun b k z _ _ hc=>EA.ctl rfl (fun _=>stepG_ret') (hc _ _ _ _ h _)
theorem QQ{id:Nat}(h:Q (.exit id) a w Shun):AW P Post fn (.exit id) Q a w Shun:=fun b k z _ _ hc=>by
 obtain⟨k',hk',hg⟩:=hc _ _ _ _ h
 exact EA.ctl rfl (fun _=>stepG_exit hk') hg
def Cn(next:Act->qq->(Loc->Prop)->Prop)(Q:nq->Act->qq->(Loc->Prop)->Prop):nq->Act->qq->(Loc->Prop)->Prop
 | .normal,a,w,S=>next a w S
 | e,a,w,S=>Q e a w S
theorem VG{x y:s9}(h:AW P Post fn x (Cn (AW P Post fn y Q) Q) a w Shun):AW P Post fn (.seq x y) Q a w Shun:=by
 intro b k z hb hk hc
 refine EA.ctl rfl (fun _=>stepG_seq) (h b (.code y :: k) z hb hk fun e a' w' S q=>?_)
 cases e with
 | normal=>exact q b k z hb hk hc
 | exit id=>exact(hc _ _ _ _ q).push rfl Ae
 | ret=>exact(hc _ _ _ _ q).push (x:=.code y) rfl Ae
 | goto l=>exact hc _ _ _ _ q
 | panic ch=>exact hc _ _ _ _ q
 | outgrown=>exact hc _ _ _ _ q
theorem QP{c:vh}{x y:s9}{t:Bool}(hc:a.eval c=.bool t)(h:AW P Post fn (if t then x else y) Q a w Shun):AW P Post fn (.cond c x y) Q a w Shun:=
 fun b k z hb hk hq=>EA.ctl rfl (fun _=>stepG_cond hc) (h b k z hb hk hq)
def Be(id:Nat)(Q:nq->Act->qq->(Loc->Prop)->Prop):nq->Act->qq->(Loc->Prop)->Prop
 | .exit i,a,w,S=>if i=id then Q .normal a w S else Q (.exit i) a w S
 | e,a,w,S=>Q e a w S
theorem KM{id:Nat}{c:s9}(h:AW P Post fn c (Be id Q) a w Shun):AW P Post fn (.block id c) Q a w Shun:=by
 intro b k z hb hk hc
 refine EA.ctl rfl (fun _=>stepG_block) (h b (.inBlock id :: k) z hb hk fun e a' w' S q=>?_)
 cases e with
 | normal=>exact EA.ctl rfl (fun _=>stepG_inBlock) (hc _ _ _ _ q)
 | exit i=>
  simp only [Be] at q
  by_cases hi:i=id
  ·rw [aQ hi] at q
   exact⟨k,by simp [xt,hi],hc _ _ _ _ q⟩
  ·rw [aO hi] at q
   obtain⟨k',hk',he⟩:=hc _ _ _ _ q
   exact⟨k',by simp [xt,bW hi,hk'],he⟩
 | ret=>exact hc _ _ _ _ q
 | goto l=>exact hc _ _ _ _ q
 | panic ch=>exact hc _ _ _ _ q
 | outgrown=>exact hc _ _ _ _ q
theorem QS{c:s9}{I:Nat->Act->qq->(Loc->Prop)->Prop}(hr:∀n a w S,I n a w S->AW P Post fn c (Cn (fun a w S=>∃m,m<n/\I m a w S) Q) a w S){n:Nat}(h:I n a w Shun):AW P Post fn (.loop c) Q a w Shun:=by
 intro b k z hb hk hc
 refine EA.ctl rfl (fun _=>stepG_loop) ?_
 induction n using Nat.strongRecOn generalizing a w Shun with
 | _ n ih=>
  refine hr n a w Shun h b (.inLoop c :: k) z hb hk fun e a' w' S q=>?_
  cases e with
  | normal=>
   obtain⟨m,hm,hI⟩:=q
   exact EA.ctl rfl (fun _=>stepG_inLoop) (ih m hm hI)
  | exit id=>exact(hc _ _ _ _ q).push rfl Ae
  | ret=>exact(hc _ _ _ _ q).push (x:=.inLoop c) rfl Ae
  | goto l=>exact hc _ _ _ _ q
  | panic ch=>exact hc _ _ _ _ q
  | outgrown=>exact hc _ _ _ _ q
theorem ET{id:Nat}{ops:Array gz}(h:Xs P Post fn ops (List.range ops.size) Q a w Shun):AW P Post fn (.region id ops vp) Q a w Shun:=
 fun b k z hb hk hc=>EA.ctl rfl (fun _=>stepG_region) (h b k z hb hk hc)
theorem OU{ops:Array gz}(h:Q .normal a w Shun):Xs P Post fn ops [] Q a w Shun:=
 fun b k z hb hk hc=>EA.ctl rfl (fun _=>stepG_region_end) (hc _ _ _ _ h)
theorem Vq{ops:Array gz}{i:Nat}{l:List Nat}{o:gz}(ho:ops[i]? = lp o)(hw:br o (iw ops a.tmps)=vp)(h:Xs P Post fn ops l Q (a.put o.dst yj) w Shun):Xs P Post fn ops (i :: l) Q a w Shun:=
 fun b k z hb hk hc=>EA.ctl rfl (fun _=>stepG_unwanted ho hw) (h b k z hb hk hc)
theorem JA{ops:Array gz}{i:Nat}{l:List Nat}{o:gz}{f:du}{args:Array vh}{ats:Array s8}{Cd:tj->qq->(Loc->Prop)->Prop}(ho:ops[i]? = lp o)(hw:br o (iw ops a.tmps)=s7)(Bt:o.op=.call { callee:=.value (.func f),args,argTypes:=ats })(Gh:Pc P Post f (args.map a.eval) Shun w Cd)(Bo:∀v w' S,Cd v w' S->Xs P Post fn ops l Q (a.put o.dst v) w' S):Xs P Post fn ops (i :: l) Q a w Shun:=
 fun b k z hb hk hc=>EA.goes (CR ho hw (by rw [hk];decide) Bt Gh fun v w' S q=>Bo v w' S q b k z hb hk hc)
variable {S:Env} {Bs:Nat->Prop}
theorem TY{ops:Array gz}{i:Nat}{l:List Nat}{o:gz}(ho:ops[i]? = lp o)(hw:br o (iw ops a.tmps)=s7)(hT:Sj P S fn o)(Ga:S.reg fn a.tmps)(hS1:∀a,Shun (.cell a)->Bs a.block)(hS2:∀r,Shun (.obj r)->Bs r)(Ee:∀i,Bs i->∃c e fz,w.heap[i]? = lp (.cells c e fz)){R:tj->qq->Prop}(H:∀v,Cq Bs w v->∃x v',((execOp a.eval o).run P v=.ok (.value x) v'∨((execOp a.eval o).run P v=.ok .skip v'/\x=yj))/\R x v')(Bo:∀x w' v',Kept Bs w w'->Cq Bs w' v'->R x v'->Xs P Post fn ops l Q (a.put o.dst x) w' Shun):Xs P Post fn ops (i :: l) Q a w Shun:=by
 intro b k z hb hk hc
 refine EA.goes (n:=1) (Goes.step rfl fun w₁ r=>?_)
 obtain⟨d,rfl⟩:=r
 have Gw:∀v,(b.at a (.inRegion ops (i :: l) :: k)).finish v=b.at (a.put o.dst v) (.inRegion ops l :: k):=fun v=>by rw [gh,ho];rfl
 refine Sp3 ?_;intro hT'
 have hs:Cq Bs (w.at d) (blank Bs w w.tape d):=(Oj Ee w.tape d).at d d
 have hke:((b.at a (.inRegion ops (i :: l) :: k)).kind == um)=vp:=by show(b.kind == um)=vp;rw [hk];rfl
 have Dk:dx P s7 (G (b.at a (.inRegion ops (i :: l) :: k)) z) (w.at d)=stepG.apply P s7 (b.at a (.inRegion ops (i :: l) :: k)) z od (execOp a.eval o) (w.at d):=by
  rw [Cj rfl]
  have hw':br o (iw ops (b.at a (.inRegion ops (i :: l) :: k)).tmps)=s7:=hw
  have ht:(b.at a (.inRegion ops (i :: l) :: k)).todo=.inRegion ops (i :: l) :: k:=rfl
  have hr:(b.at a (.inRegion ops (i :: l) :: k)).roundOf=od:=rfl
  have he:(b.at a (.inRegion ops (i :: l) :: k)).eval=a.eval:=Frame.eval_at' _ _ _
  simp [stepG.exec,ht,ho,hw',stepG.oper,Frame.oper?,hr,he]
 obtain⟨x,v',D1,hR⟩:=H _ (Oj Ee w.tape d)
 cases Kf (execOp a.eval o) (fun _=>False) (w.at d) (blank Bs w w.tape d) #[] hT' (fun _ h=>h.elim) hs (fun j _=>rfl) with
 | bad h v1 hr hbad=>rcases D1 with h1|⟨h1,_⟩ <;> (rw [h1] at hr;cases hr)
 | panic y w1 v1 es hw1 hv1 ha Hf=>rcases D1 with h1|⟨h1,_⟩ <;> (rw [h1] at hv1;cases hv1)
 | ok y w1 v1 es hw1 hv1 hq ha Hf=>
  have hkept:Kept Bs w w1:=⟨ha.grow,ha.keep,ha.same,ha.wt,ha.far⟩
  have hev:∀e∈seen P (b.at a (.inRegion ops (i :: l) :: k)).fn (#[]++es),EvL Shun w1.heap.size e:=fun e he=>Pk hS1 hS2 (Kd (by simpa using Hf) e he)
  rcases D1 with h1|⟨h1,rfl⟩
  ·rw [h1] at hv1
   injection hv1 with e1 e2
   subst e1 e2
   rw [Dk]
   simp only [stepG.apply,hw1,bC,hke,Gw]
   refine⟨⟨ha.grow,by simpa using hev,ha.same⟩,EA.stop (Bo x w1 v' hkept ha.sim hR b k z hb hk hc)⟩
  ·rw [h1] at hv1
   injection hv1 with e1 e2
   subst e1 e2
   rw [Dk]
   simp only [stepG.apply,hw1,bC,hke,Gw]
   refine⟨⟨ha.grow,by simpa using hev,ha.same⟩,EA.stop (Bo yj w1 v' hkept ha.sim hR b k z hb hk hc)⟩
theorem Vh{f:du}{Hz:Func}{c:s9}{args:Array tj}{Cd:tj→qq→(Loc→Prop)→Prop}{t:Tmp}(hf:P.funcs[f]? = lp Hz)(Fo:(Hz.name == "runtime.NumGoroutine")=vp)(hbody:Hz.body=lp c)(Gr:Hz.results=#[.tmp t])(h:AW P Post f c (fun e a w' S=>(e=.normal∨e=.ret)∧a.defers = []∧Cd (a.tmps.getD t yj) w' S) { tmps:=args++yl (Hz.ntmps - args.size) yj,defers:=[] } w Shun):Pc P Post f args Shun w Cd:=by
 refine⟨Hz,c,hf,Fo,hbody,fun fr cs Bo=>?_⟩
 have ret:∀(todo:List r8) (a:Act) (w':qq) (S:Loc->Prop),a.defers = []->Cd (a.tmps.getD t yj) w' S->EA P Post S (G { (base f).at a todo with mode:=.returning } (fr :: cs)) w':=fun todo a w' S had hp=>by
  refine EA.ctl rfl (fun w1=>?_) (Bo _ _ _ hp)
  rw [Eg Ae]
  have hr:=results_tmp Gr a.tmps P w1
  have hev:(results Hz a.tmps).runT P w1 #[]=(.ok (a.tmps.getD t yj) w1,#[]):=by
   unfold results
   simp [Gr,Sem.runT,pure]
  simp only [unwind,Frame.at,had,base,hf,hev,doReturn]
  simp [fw,G,seen_none]
 refine h (base f) [] (fr :: cs) rfl rfl fun e a' w' S ⟨he,had,hp⟩=>?_
 rcases he with rfl|rfl
 ·exact EA.ctl rfl (fun w1=>stepG_end) (ret [] a' w' S had hp)
 ·exact fun todo=>ret todo a' w' S had hp
end
theorem Fb.moved{J:Loc->Prop}{v v':qq}{i:Nat}(h:Fb v i)(hm:Ht J v v')(hi:Vf J i):Fb v' i:=by
 have:=hm.row i h.lt hi
 obtain⟨c,e,fz,h⟩:=h
 exact⟨c,e,fz,by rw [this];exact h⟩
structure EZ(P:me)(main:Bool)(J:Loc->Prop)(g:gq)(v:qq)(g':gq)(v':qq):Prop where
 run:g'.status=.running
 nf:NJ J v'
 moved:Ht J v v'
 all:∀w,Ct J w v->∃w' es,dx P main g w=.go g' w' es/\Ct J w' v'/\Ht J w w'/\∀e∈es,RJ J w'.heap.size e
inductive Tree where
 | leaf
 | node (f:Nat->Tree)
def Tree.Sub(s:Tree):Tree->Prop
 | .leaf=>False
 | .node f=>∃d,s=f d
theorem Tree.wf:WellFounded Tree.Sub:=⟨fun t=>by
 induction t with
 | leaf=>exact⟨_,fun s h=>h.elim⟩
 | node f ih=>exact⟨_,fun s ⟨d,h⟩=>h▸ih d⟩⟩
section
variable (P:me) (main:Bool) (J:Loc->Prop) (Stop:gq->qq->Prop)
def VO:Tree->gq->qq->Prop
 | .leaf,g,v=>NJ J v/\∀d,Stop g (v.at d)
 | .node f,g,v=>NJ J v/\g.status=.running/\∀d,∃g' v',EZ P main J g (v.at d) g' v'/\VO (f d) g' v'
def Fw(g:gq)(v:qq):Prop:=∃T,VO P main J Stop T g v
def EV(g:gq)(v:qq):Prop:=NJ J v->Fw P main J Stop g v
def O7(b:qg)(k:List r8)(z:List qg):nq->Act->qq->Prop
 | .normal,a,w=>EV P main J Stop (G (b.at a k) z) w
 | .exit id,a,w=>∃k',xt id k=lp k'/\EV P main J Stop (G (b.at a k') z) w
 | .ret,a,w=>∀todo,EV P main J Stop (G { b.at a todo with mode:=.returning } z) w
 | _,_,_=>False
def N5(fn:du)(c:s9)(Q:nq->Act->qq->Prop)(a:Act)(w:qq):Prop:=
 ∀(b:qg) (k:List r8) (z:List qg),b.fn=fn->b.kind=.normal->(∀e a' w',Q e a' w'->O7 P main J Stop b k z e a' w')->EV P main J Stop (G (b.at a (.code c :: k)) z) w
def opsV(fn:du)(ops:Array gz)(l:List Nat)(Q:nq->Act->qq->Prop)(a:Act)(w:qq):Prop:=
 ∀(b:qg) (k:List r8) (z:List qg),b.fn=fn->b.kind=.normal->(∀e a' w',Q e a' w'->O7 P main J Stop b k z e a' w')->EV P main J Stop (G (b.at a (.inRegion ops l :: k)) z) w
def Bz(f:du)(args:Array tj)(w:qq)(Cd:tj->qq->Prop):Prop:=
 ∃fn c,P.funcs[f]? = lp fn∧(fn.name == "runtime.NumGoroutine")=vp∧fn.body=lp c∧∀(fr:qg) (cs:List qg),fr.mode=.run→(∀v w',Cd v w'→EV P main J Stop (G (fr.finish v) cs) w') →
  EV P main J Stop (G ((base f).at { tmps:=args++yl (fn.ntmps - args.size) yj,defers:=[] } [.code c]) (fr :: cs)) w
end
section
variable {P:me} {main:Bool} {J:Loc->Prop} {Stop:gq->qq->Prop} {g g':gq} {v v':qq} {fn:du} {Q:nq->Act->qq->Prop} {a:Act} {w:qq}
theorem VO.at{T:Tree}(h:VO P main J Stop T g v)(d:Nat):VO P main J Stop T g (v.at d):=by cases T <;> exact h
theorem Fw.at(h:Fw P main J Stop g v)(d:Nat):Fw P main J Stop g (v.at d):=let⟨T,h⟩:=h;⟨T,h.at d⟩
theorem Fw.step(hn:NJ J v)(hr:g.status=.running)(h:∀d,∃g' v',EZ P main J g (v.at d) g' v'/\Fw P main J Stop g' v'):Fw P main J Stop g v:=by
 refine⟨.node fun d=>(h d).choose_spec.choose_spec.2.choose,hn,hr,fun d=>⟨(h d).choose,(h d).choose_spec.choose,(h d).choose_spec.choose_spec.1,(h d).choose_spec.choose_spec.2.choose_spec⟩⟩
theorem EV.stop(h:∀d,Stop g (v.at d)):EV P main J Stop g v:=fun hn=>⟨.leaf,hn,h⟩
theorem EV.at(h:EV P main J Stop g v)(d:Nat):EV P main J Stop g (v.at d):=fun hn=>Fw.at (h hn) d
theorem EV.step(hr:g.status=.running)(h:NJ J v->∀d,∃g' v',EZ P main J g (v.at d) g' v'/\EV P main J Stop g' v'):EV P main J Stop g v:=fun hn=>
 Fw.step hn hr fun d=>let⟨g',v',h1,h2⟩:=h hn d;⟨g',v',h1,h2 h1.nf⟩
theorem KF(hr:g'.status=.running)(hn:NJ J v)(h:∀w,dx P main g w=.go g' w):EZ P main J g v g' v:=⟨hr,hn,.refl _,fun w hs=>⟨w,#[],h w,hs,.refl _,Ae⟩⟩
theorem EV.ctl(hr:g.status=.running)(hr':g'.status=.running)(h:∀w,dx P main g w=.go g' w)(hE:EV P main J Stop g' v):EV P main J Stop g v:=
 EV.step hr fun hn d=>⟨g',v.at d,KF hr' (show NJ J (v.at d) from hn) h,hE.at d⟩
theorem O7.push{b:qg}{x:r8}{k:List r8}{z:List qg}{e:nq}(hx:x.plain=s7)(he:e≠.normal)(h:O7 P main J Stop b k z e a w):O7 P main J Stop b (x :: k) z e a w:=by
 exact M9m
theorem AX{c:s9}{Q':nq->Act->qq->Prop}(h:N5 P main J Stop fn c Q a w)(hq:∀e a w,Q e a w->Q' e a w):N5 P main J Stop fn c Q' a w:=
 fun b k z hb hk hc=>h b k z hb hk fun e a' w' q=>hc e a' w' (hq _ _ _ q)
theorem Cz(h:Q .normal a w):N5 P main J Stop fn .skip Q a w:=fun b k z _ _ hc=>EV.ctl rfl rfl (fun _=>stepG_skip) (hc _ _ _ h)
theorem Ez(h:Q .ret a w):N5 P main J Stop fn .ret Q a w:=fun b k z _ _ hc=>EV.ctl rfl rfl (fun _=>stepG_ret') (hc _ _ _ h _)
theorem Kj{id:Nat}(h:Q (.exit id) a w):N5 P main J Stop fn (.exit id) Q a w:=fun b k z _ _ hc=>by
 obtain⟨k',hk',hg⟩:=hc _ _ _ h
 exact EV.ctl rfl rfl (fun _=>stepG_exit hk') hg
def Az(next:Act->qq->Prop)(Q:nq->Act->qq->Prop):nq->Act->qq->Prop
 | .normal,a,w=>next a w
 | e,a,w=>Q e a w
theorem Aw{x y:s9}(h:N5 P main J Stop fn x (Az (N5 P main J Stop fn y Q) Q) a w):N5 P main J Stop fn (.seq x y) Q a w:=by
 intro b k z hb hk hc
 refine EV.ctl rfl rfl (fun _=>stepG_seq) (h b (.code y :: k) z hb hk fun e a' w' q=>?_)
 cases e with
 | normal=>exact q b k z hb hk hc
 | exit id=>exact(hc _ _ _ q).push rfl Ae
 | ret=>exact(hc _ _ _ q).push (x:=.code y) rfl Ae
 | goto l=>exact hc _ _ _ q
 | panic ch=>exact hc _ _ _ q
 | outgrown=>exact hc _ _ _ q
theorem Bi{c:vh}{x y:s9}{t:Bool}(hc:a.eval c=.bool t)(h:N5 P main J Stop fn (if t then x else y) Q a w):N5 P main J Stop fn (.cond c x y) Q a w:=
 fun b k z hb hk hq=>EV.ctl rfl rfl (fun _=>stepG_cond hc) (h b k z hb hk hq)
def As(id:Nat)(Q:nq->Act->qq->Prop):nq->Act->qq->Prop
 | .exit i,a,w=>if i=id then Q .normal a w else Q (.exit i) a w
 | e,a,w=>Q e a w
theorem Dt{id:Nat}{c:s9}(h:N5 P main J Stop fn c (As id Q) a w):N5 P main J Stop fn (.block id c) Q a w:=by
 intro b k z hb hk hc
 refine EV.ctl rfl rfl (fun _=>stepG_block) (h b (.inBlock id :: k) z hb hk fun e a' w' q=>?_)
 cases e with
 | normal=>exact EV.ctl rfl rfl (fun _=>stepG_inBlock) (hc _ _ _ q)
 | exit i=>
  simp only [As] at q
  by_cases hi:i=id
  ·rw [aQ hi] at q
   exact⟨k,by simp [xt,hi],hc _ _ _ q⟩
  ·rw [aO hi] at q
   obtain⟨k',hk',he⟩:=hc _ _ _ q
   exact⟨k',by simp [xt,bW hi,hk'],he⟩
 | ret=>exact hc _ _ _ q
 | goto l=>exact hc _ _ _ q
 | panic ch=>exact hc _ _ _ q
 | outgrown=>exact hc _ _ _ q
theorem QX{c:s9}{I:Nat->Act->qq->Prop}(hr:∀n a w,I n a w->N5 P main J Stop fn c (Az (fun a w=>∃m,m<n/\I m a w) Q) a w){n:Nat}(h:I n a w):N5 P main J Stop fn (.loop c) Q a w:=by
 intro b k z hb hk hc
 refine EV.ctl rfl rfl (fun _=>stepG_loop) ?_
 induction n using Nat.strongRecOn generalizing a w with
 | _ n ih=>
  refine hr n a w h b (.inLoop c :: k) z hb hk fun e a' w' q=>?_
  cases e with
  | normal=>
   obtain⟨m,hm,hI⟩:=q
   exact EV.ctl rfl rfl (fun _=>stepG_inLoop) (ih m hm hI)
  | exit id=>exact(hc _ _ _ q).push rfl Ae
  | ret=>exact(hc _ _ _ q).push (x:=.inLoop c) rfl Ae
  | goto l=>exact hc _ _ _ q
  | panic ch=>exact hc _ _ _ q
  | outgrown=>exact hc _ _ _ q
theorem EW{id:Nat}{ops:Array gz}(h:opsV P main J Stop fn ops (List.range ops.size) Q a w):N5 P main J Stop fn (.region id ops vp) Q a w:=
 fun b k z hb hk hc=>EV.ctl rfl rfl (fun _=>stepG_region) (h b k z hb hk hc)
theorem Au{ops:Array gz}(h:Q .normal a w):opsV P main J Stop fn ops [] Q a w:=
 fun b k z hb hk hc=>EV.ctl rfl rfl (fun _=>stepG_region_end) (hc _ _ _ h)
theorem Vr{ops:Array gz}{i:Nat}{l:List Nat}{o:gz}(ho:ops[i]? = lp o)(hw:br o (iw ops a.tmps)=vp)(h:opsV P main J Stop fn ops l Q (a.put o.dst yj) w):opsV P main J Stop fn ops (i :: l) Q a w:=
 fun b k z hb hk hc=>EV.ctl rfl rfl (fun _=>stepG_unwanted ho hw) (h b k z hb hk hc)
theorem Lm{b:qg}{k:List r8}{cs:List qg}{ops:Array gz}{i:Nat}{rest:List Nat}{o:gz}{w':qq}(ho:ops[i]? = lp o)(hw:br o (iw ops a.tmps)=s7)(hk:b.kind≠.early)(hr:(execOp a.eval o).run P w=.ok .skip w') :
  dx P main (G (b.at a (.inRegion ops (i :: rest) :: k)) cs) w=.go (G (b.at (a.put o.dst yj) (.inRegion ops rest :: k)) cs) w' (listed P b.fn a o w):=by
 have hk':(b.kind == um)=vp:=by simpa using hk
 have Gw:(b.at a (.inRegion ops (i :: rest) :: k)).finish yj=b.at (a.put o.dst yj) (.inRegion ops rest :: k):=by rw [gh,ho];rfl
 rw [stepG_oper ho hw,←Gw]
 simp [stepG.apply,hr,G,hk',fw,listed,Frame.at]
def Yields(P:me)(s:Sem Next)(w:qq)(x:tj)(w':qq):Prop:=s.run P w=.ok (.value x) w'∨(s.run P w=.ok .skip w'/\x=yj)
theorem Ui{B:Nat}{o:gz}{fn:du}(h:∀e∈(execOp a.eval o).events P w #[],RJ J B e):∀e∈listed P fn a o w,RJ J B e:=fun e he=>h e (mem_seen he)
theorem UA{ops:Array gz}{i:Nat}{l:List Nat}{o:gz}{S:Env}(ho:ops[i]? = lp o)(hw:br o (iw ops a.tmps)=s7)(hT:Sj P S fn o)(Ga:S.reg fn a.tmps)(H:∀d,∃x v',Yields P (execOp a.eval o) (w.at d) x v'/\(∀e∈(execOp a.eval o).events P (w.at d) #[],EvJ J v'.heap.size e)/\opsV P main J Stop fn ops l Q (a.put o.dst x) v'):opsV P main J Stop fn ops (i :: l) Q a w:=by
 intro b k z hb hk hc
 refine Sp3 ?_;intro hT'
 have hke:b.kind≠.early:=by rw [hk];decide
 refine EV.step rfl fun hn d=>?_
 obtain⟨x,v',hy,he,Bo⟩:=H d
 refine⟨G (b.at (a.put o.dst x) (.inRegion ops l :: k)) z,v',?_,Bo b k z hb hk hc⟩
 rcases hy with hy|⟨hy,rfl⟩
 ·have hrT:(execOp a.eval o).runT P (w.at d) #[]=(.ok (.value x) v',(execOp a.eval o).events P (w.at d) #[]):=by rw [lk,hy]
  obtain⟨_,_,_,h4,h5⟩:=Ja (J:=J) _ _ (w.at d).heap.size (w.at d) (w.at d) #[] _ _ _ hT' (fun i hi=>⟨(hn.2 i hi).lt,hn.2 i hi⟩) (aA _) (fun _ h=>h.elim) (show NF (w.at d) from hn.1) (.refl _) hrT ⟨_,he⟩
  refine⟨rfl,⟨h4,fun i hi=>(show Fb (w.at d) i from hn.2 i hi).moved h5.2 hi⟩,h5.2,fun u hs=>?_⟩
  refine Ta1 ?_;intro u' r1 r2 r3 r4 r5
  rw [lk] at r1
  have r6:(execOp a.eval o).run P u=.ok (.value x) u':=aG Prod.fst r1
  have r7:(execOp a.eval o).events P u #[]=(execOp a.eval o).events P (w.at d) #[]:=(eL r1).2
  refine⟨u',_,stepG_value ho hw hke r6,r2,r4,Ui fun e hx=>?_⟩
  rw [r7] at hx
  rw [←r2.size]
  exact(he e hx).k
 ·have hrT:(execOp a.eval o).runT P (w.at d) #[]=(.ok .skip v',(execOp a.eval o).events P (w.at d) #[]):=by rw [lk,hy]
  obtain⟨_,_,_,h4,h5⟩:=Ja (J:=J) _ _ (w.at d).heap.size (w.at d) (w.at d) #[] _ _ _ hT' (fun i hi=>⟨(hn.2 i hi).lt,hn.2 i hi⟩) (aA _) (fun _ h=>h.elim) (show NF (w.at d) from hn.1) (.refl _) hrT ⟨_,he⟩
  refine⟨rfl,⟨h4,fun i hi=>(show Fb (w.at d) i from hn.2 i hi).moved h5.2 hi⟩,h5.2,fun u hs=>?_⟩
  refine Ta1 ?_;intro u' r1 r2 r3 r4 r5
  rw [lk] at r1
  have r6:(execOp a.eval o).run P u=.ok .skip u':=aG Prod.fst r1
  have r7:(execOp a.eval o).events P u #[]=(execOp a.eval o).events P (w.at d) #[]:=(eL r1).2
  refine⟨u',_,Lm ho hw hke r6,r2,r4,Ui fun e hx=>?_⟩
  rw [r7] at hx
  rw [←r2.size]
  exact(he e hx).k
theorem DD{ops:Array gz}{i:Nat}{l:List Nat}{o:gz}{f:du}{args:Array tj}{Cd:tj->qq->Prop}(ho:ops[i]? = lp o)(hw:br o (iw ops a.tmps)=s7)(hr:∀w,(execOp a.eval o).run P w=.ok (.enter f args) w)(he:∀w,(execOp a.eval o).events P w #[]=#[])(Gh:Bz P main J Stop f args w Cd)(Bo:∀v w',Cd v w'->opsV P main J Stop fn ops l Q (a.put o.dst v) w'):opsV P main J Stop fn ops (i :: l) Q a w:=by
 intro b k z hb hk hc
 obtain⟨f',c,h1,Fo,h2,h⟩:=Gh
 have hke:b.kind≠.early:=by rw [hk];decide
 have Gw:∀v,(b.at a (.inRegion ops (i :: l) :: k)).finish v=b.at (a.put o.dst v) (.inRegion ops l :: k):=fun v=>by rw [gh,ho];rfl
 refine EV.ctl rfl rfl (fun w=>?_) (h (b.at a (.inRegion ops (i :: l) :: k)) z rfl fun v w' q=>by rw [Gw];exact Bo v w' q b k z hb hk hc)
 exact Lhg
theorem Q8{ops:Array gz}{i:Nat}{l:List Nat}{o:gz}{f:du}{args:Array vh}{ats:Array s8}{Cd:tj->qq->Prop}(ho:ops[i]? = lp o)(hw:br o (iw ops a.tmps)=s7)(Bt:o.op=.call { callee:=.value (.func f),args,argTypes:=ats })(Gh:Bz P main J Stop f (args.map a.eval) w Cd)(Bo:∀v w',Cd v w'->opsV P main J Stop fn ops l Q (a.put o.dst v) w'):opsV P main J Stop fn ops (i :: l) Q a w:=by
 have hcall':=Gh
 obtain⟨f',c,h1,Fo,h2,_⟩:=hcall'
 have Es:f'.body.isNone=vp:=by rw [h2];rfl
 exact DD ho hw (fun w=>run_call_body Bt h1 Fo Es) (fun w=>events_call_body Bt h1 Fo Es _) Gh Bo
theorem Br{f:du}{Hz:Func}{c:s9}{args:Array tj}{Cd:tj→qq→Prop}{R:Array tj→tj}(hf:P.funcs[f]? = lp Hz)(Fo:(Hz.name == "runtime.NumGoroutine")=vp)(hbody:Hz.body=lp c)(Gr:∀tmps w,(results Hz tmps).run P w=.ok (R tmps) w)(hev:∀tmps w,(results Hz tmps).events P w #[]=#[])(h:N5 P main J Stop f c (fun e a w'=>(e=.normal∨e=.ret)∧a.defers = []∧Cd (R a.tmps) w') { tmps:=args++yl (Hz.ntmps - args.size) yj,defers:=[] } w):Bz P main J Stop f args w Cd:=by
 refine⟨Hz,c,hf,Fo,hbody,fun fr cs hm Bo=>?_⟩
 have ret:∀(todo:List r8) (a:Act) (w':qq),a.defers = []->Cd (R a.tmps) w'->EV P main J Stop (G { (base f).at a todo with mode:=.returning } (fr :: cs)) w':=fun todo a w' had hp=>
  EV.ctl rfl Ac (fun w1=>stepG_leave (b:=base f) rfl had hf (Gr _ _) (hev _ _)) (Bo _ _ hp)
 refine h (base f) [] (fr :: cs) rfl rfl fun e a' w' ⟨he,had,hp⟩=>?_
 exact Ecw
end
end Go.Pair
