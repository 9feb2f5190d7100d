import Derived.Test.YtnepogbkiocdhaaGreatDoorQ18
import Derived.Lib.LaidIn
import Derived.Deep.DeepWitnessRowRef
open Go.Proofs.YtnepogbkiocdhaaGreatDoor
set_option maxRecDepth 8000
set_option linter.all false
open Go.Proofs.Tryz renaming prog->ow,underlying177->mr,f3->ri
open Go.Lib.laidMet renaming reads->qf
open Bool renaming false->vy,true->jz
open Option renaming some->je,none->zt
open Go.Proofs.YtnepogbkiocdhaaGreatDoor.Rows renaming laid_orchard_file_schemas->iu,laid_unicode_utf8_acceptRanges->zl,laid_orchard_message_requests->s8,laid_orchard_message_answers->zv,laid_orchard_value_letters->yu,laid_unicode_utf8_first->zr,uptoBulk->q8
open Go.Value renaming okWide->wx,int->wy,string->zx,slice->xh
open Go renaming trodAll_cons_mk->tc,Value->p8,World->qi,DataW->my,MemPlace->ve
open Go.DataW renaming lit->om,Trod->lu
open Go.ChangeShapes renaming trodAll_cons->mg
open Go.Proofs.YtnepogbkiocdhaaGreatDoor.Rows.OpenSpec renaming upto->r8
open Go.Frame renaming enter->ur
open Go.IntKind renaming i64->yh
open Go
open Go.Proofs.Tryz
def Xh7{p:Prop}(h:p:=by
 exact WideElems.Trod_stays Ab Ab (of_decide_eq_true Ab) hT (λx Z=>same x (K x Z)) (λx Z=>by simpa using K x Z)):p:=h
namespace Go.Proofs.Y
open Go.ChangeShapes Go.WideShapes Go.ChangeAt Go.RowKit Go.Pair Go.Conc
def own:ownKnob prog.godebug=zt:=Ab
mutual
def fl:my Unit->List p8
 | .lit (.int k n)=>[wy k n]
 | .lit (.string s)=>[zx ⟨s.toArray⟩]
 | .lit (.bool b)=>[.bool b]
 | .agg l=>fls l
 | _=>[]
def fls:List (my Unit)->List p8
 | []=>[]
 | d :: l=>fl d++fls l
end
noncomputable def IH(os:Os):qi:=
 let w:=World.holding ow os ⟨#[],#[],[]⟩
 let row (l:List Int):Obj:=.cells (l.toArray.mapIdx λi n=>if i % 3=1 then .bool (n == 1) else wy yh n) 286
 {w with heap:=([(7,yu),(5,zr),(6,zl),(2,iu),(0,s8),(3,zv)].foldl (λh(g,d)=>h.modify g fun
  | .cells _ t z=>.cells (fl d).toArray t z
  | o=>o) w.1).modify 4 (λ_=>.cells #[xh zt 0 0,xh (je ⟨13,0,zt⟩) 2 2,xh (je ⟨14,0,zt⟩) 3 3,xh (je ⟨15,0,zt⟩) 1 1] 284)++#[row [0,0,1,1,1,4],row [0,0,2,1,0,2,1,1,4],row [0,0,3]] }
section
variable {H:Type} {P:TypeId×p8->H}
def DN{a C B f u}{s:OpenSpec}{F m b p d h q}(own:ownKnob C.prog.godebug=zt)(o:B.Started)(T:C.prog.funcs[f]? = je u)(x:∃(w:qi)(e:Tape)(i:Input),w.os=B/\(w.forCall e i).Shaped C.prog/\i.vars = []/\Input.okWide C.prog (w.forCall e i) .any w.heap.size f i /\
   s.preRow P C.prog u m b q (w.forCall e i).memory i.args/\a.holds C.prog (lone (ur C.prog f i.args .normal) [] (w.forCall e i)))(y:∀W z (c:iJ) R r g,
   (∀(j:Nat) t v,u.params[j]? = je t->c[j]? = je v->wx C.prog W .any z t v)->DataW.Whole P C.prog u.params.toList s.vars b W c.toList R r g->(∀k,s.cond=je k->k H (R++r)=jz)->laidMetH C.prog q W->W.ShapedOpen C.prog ->
   EA C.prog (λv J=>FJ W J->(s.at F).post P C.prog u b p d h W c v J) (λ_=>False) (G (ur C.prog f c .normal) []) W) :
  ReturnsInLeavingWide a C B f .any (s.preRow P C.prog u m b q) ((s.at F).post P C.prog u b p d h):=by refine returnsInLeavingWide_of_good own o x λw e i _ A _ l L _=>?_;have ⟨_,_,_,O,E,_,_,_,_,I⟩:=l;obtain rfl:O=u:=aC (E.symm.trans T);have ⟨⟨Q,K⟩,a1⟩:=L;have ⟨R,r,g,U,a6,M⟩:=OpenSpec.pre_parts Q;obtain⟨N,S,a7,V,X,Y,n,D,v,rfl,Q,Z⟩:=(y _ w.1.size i.2 R r g I (DataW.Whole.of_heap  Ac U) M (K.of_heap  Ac) A).run;exact⟨N,S,_,V,X,Y,n,D,v,rfl,ChangeSpec.post_blind (Q.2 Q.1),Z⟩
end
def Aqi:prog.globalNamed "orchard/file.schemas" = je 2:=Ab
def Afa:(prog.globals[2]?).map (·.type)=je 177:=Ab
def Yo{w}(h:Lib.VarReads ow w "orchard/file.schemas" iu):E8 w:=by
 have ⟨g,t,cs,a,p,G,v,H,s⟩:=h;obtain rfl:=aC (Aqi.symm.trans G);obtain rfl:=aC (Afa.symm.trans v);have c:cs.1.length=3:=by obtain⟨_,_,_,_,K,_⟩:=DataW.trod_array mr s;rw[K,OI]
 obtain⟨c0,Q,R,f⟩:∃c0 Q R,cs.1 = [c0,Q,R]:=by match cs.1,c with| [c0,Q,R],_=>grind
 rw[f]at s;have n:∀i(l:iE),i<3->([.lit (.string []),.lit (.string [40,116,98,56,56,52,41]),.lit (.string [40,116,98,116,56,56,52,41])]:List (my Unit))[i]? = je (.lit (.string l))->[c0,Q,R][i]? = je (zx ⟨l.toArray⟩):=λi l V h=>by obtain⟨_,d,_,e,t⟩:=Lib.array_elem mr s i V;obtain rfl:=aC (h.symm.trans e);rw[KT]at t;have:=aK (·[0]?) (Ah3 t);match i,V with| 0,_=>simpa using this| 1,_=>simpa using this| 2,_=>simpa using this
 have F:=n 0 _ Ad rfl;have S:=n 1 _ Ad rfl;have L:=n 2 _ Ad rfl;simp at F S L;subst F S L;obtain rfl:cs=#[zx ⟨#[]⟩,zx ⟨#[40,116,98,56,56,52,41]⟩,zx ⟨#[40,116,98,116,56,56,52,41]⟩]:=fI.1 f;simp[World.var?,Aqi,dP]at H;exact Icz
def Aj6{W}(b:laidMet ow Rows.haltedUptoRow.laid W)(D:W.ShapedOpen ow):Laid W/\W.cell? ⟨4,0,zt⟩=je (xh zt 0 0)/\∀kind,kind=1∨kind=2∨kind=3->∃g,Qy W kind g (TT kind):=by have R:=qf b (.tail _ (.tail _ (.head _)));have B:=qf b (.tail _ (.tail _ (.tail _ (.head _))));have c:=qf b (.tail _ (.tail _ (.tail _ (.tail _ (.tail _ (.head _))))));have ⟨⟨X,P⟩,⟨o,O⟩,d,a⟩:=FC c;have ⟨m,L⟩:=Anz D;have V:=EX (qf b (.tail _ (.head _)));(have I:8<=W.1.size:=by have ⟨_,_,M⟩:=V;have:=ltOf M;omega);refine⟨{ sch:=Yo (qf b (.tail _ (.tail _ (.tail _ (.tail _ (.head _)))))),tabs:=GH (qf b (.tail _ (.tail _ (.tail _ (.tail _ (.tail _ (.tail _ (.head _)))))))) (qf b (.head _)) I,table:=V,ml:=⟨m,L⟩,rq:=λk h=>by obtain rfl|rfl|rfl|rfl|rfl|rfl|rfl:=kinds h.1 h.2 <;> exact Wy R Ad Ad _ rfl rfl rfl,an:=λk h=>by obtain rfl|rfl|rfl|rfl|rfl|rfl|rfl:=kinds h.1 h.2 <;> exact Xs B Ad Ad _ rfl rfl rfl },FA c,λkind E=>?_⟩;obtain rfl|rfl|rfl:=E;exact⟨X,P⟩;exact⟨o,O⟩;exact⟨d,a⟩
def YT(W:qi)(gs:iO):List Nat:=gs.foldl To (List.range 8)
def Akh(r:iO):∀l:List Nat,l.Nodup->(r.foldl To l).Nodup:=by induction r with| nil=>exact λl h=>h| cons g r O=>exact λl h=>O _ (Ai3 h)
def Agw(r:iO):∀l(x:Nat),x∈l->x∈r.foldl To l:=by induction r with| nil=>grind| cons g r O=>exact λl x h=>O _ x (Adu h)
def Akg(r:iO):∀l(i y:Nat),l[i]? = je y->(r.foldl To l)[i]? = je y:=by induction r with| nil=>grind| cons g r O=>exact λl i y h=>O _ i y (Ai2 h)
def Wp(r:iO):∀l(x:Nat),x∈r->x∈r.foldl To l:=by induction r with| nil=>grind| cons g r O=>intro l x h;obtain rfl|h:=bM.1 h;exact Agw r _ _ Adt;exact O _ x h
def Agv(r:iO):∀l(x:Nat),x∈r.foldl To l->x∈l∨x∈r:=by induction r with| nil=>grind| cons g r O=>intro l x h;obtain h|h:=O _ x h;obtain h|rfl:=Ads h;exact .inl h;grind;grind
def Ach{W b t e a n c}(r:prog.underlying t=je (.slice e))(h:wx ow W .any b t (xh (je a) n c)):∃cs S d,W.1[a.block]? = je (.cells cs S d):=by rw[wx]at h;unfold Cell.okWide at h;unfold Cell.ok at h;rw[r]at h;have ⟨_,_,_,_,row,f,s,_⟩:=h;rw[World.shape?]at s;grind
def Aop{W}(D:W.ShapedOpen ow)(V:Table W)(u:W.cell? ⟨4,0,zt⟩=je (xh zt 0 0))(R:∀kind,kind=1∨kind=2∨kind=3->∃v,Qy W kind v (TT kind))(r:iO)(w:∀x∈r,∃c t f,W.1[x]? = je (.cells c t f)):∃l,Z4 W l/\NY W l/\∀x∈r,x∈l:=by obtain⟨X,P⟩:=R 1 (.inl rfl);obtain⟨o,O⟩:=R 2 (.inr (.inl rfl));obtain⟨d,a⟩:=R 3 (.inr (.inr rfl));obtain⟨K,y,Q⟩:=P.1;obtain⟨I,A,s⟩:=O.1;obtain⟨H,n,U⟩:=a.1;have F:=Q 0 _ rfl;have z:=s 0 _ rfl;have G:=U 0 _ rfl;have i:X∈YT W (X :: o :: d :: r):=Wp _ _ _ Ae;have g:o∈YT W (X :: o :: d :: r):=Wp _ _ _ Ae;have k:d∈YT W (X :: o :: d :: r):=Wp _ _ _ Ae;refine⟨YT W (X :: o :: d :: r),⟨Akh _ _ List.nodup_range,λx Z=>?_,λm p=>Akg _ _ _ _ (by simp[p]),λm c t f p M j x Z=>?_⟩,λkind E=>?_,λx Z=>Wp _ _ _ (by simp[Z])⟩;obtain h|h:=Agv _ _ _ Z;obtain⟨c,t,f,C,_⟩:=IA D V (List.mem_range.1 h);exact⟨_,_,_,C⟩;simp[bM]at h;obtain rfl|rfl|rfl|h:=h;obtain⟨c,t,f,C,_⟩:=Vm F.1;exact⟨_,_,_,C⟩;obtain⟨c,t,f,C,_⟩:=Vm z.1;exact⟨_,_,_,C⟩;obtain⟨c,t,f,C,_⟩:=Vm G.1;exact⟨_,_,_,C⟩;exact w x h;obtain⟨B,L,S,C,J,T⟩:=IA D V p;rw[M]at C;cases C;by_cases q:m=4;subst q;obtain⟨N,_⟩:=T rfl;(have Y:j<4:=N▸(aJ.1 Z).1);have:j=0∨j=1∨j=2∨j=3:=Aa;obtain rfl|rfl|rfl|rfl:=this;rw[Ir M u]at Z;cases Z;exact .inr ⟨_,_,_,rfl,λb e=>M2⟩;rw[Ir M y]at Z;cases Z;exact .inr ⟨_,_,_,rfl,λb e=>by cases e;exact i⟩;rw[Ir M A]at Z;cases Z;exact .inr ⟨_,_,_,rfl,λb e=>by cases e;exact g⟩;rw[Ir M n]at Z;cases Z;exact .inr ⟨_,_,_,rfl,λb e=>by cases e;exact k⟩;exact .inl (J q j x Z);obtain rfl|rfl|rfl:=E;exact⟨X,i,(MX D V (x:=(0,vy,1)) F.1 F.2.1 F.2.2),P⟩;exact⟨o,g,(MX D V (x:=(0,vy,2)) z.1 z.2.1 z.2.2),O⟩;exact⟨d,k,(MX D V (x:=(0,vy,3)) G.1 G.2.1 G.2.2),a⟩
set_option maxRecDepth 100000 in
def TX(H)(P:TypeId×p8->H)(W u)(args:iJ)(R w ab)(I:∀(j:Nat) t v,f3.params[j]? = je t->args[j]? = je v->wx ow W .any u t v)(z:DataW.Whole P ow f3.params.toList Rows.haltedSpec.vars vy W args.toList R w ab)(E:Rows.uptoSmall H (R++w)=jz)(hL:laidMetH ow Rows.haltedUptoRow.laid W)(D:W.ShapedOpen ow) :
  EA ow (λv J=>FJ W J->Rows.haltedSpec.post P ow ri vy jz vy vy W args v J) (λ_=>False) (G (ur ow 3 args .normal) []) W:=by
 have hM:laidMet ow Rows.haltedUptoRow.16 W:=hL;have A:=z;obtain⟨a7,av,C,hV,rfl,aw,ax⟩:=z;have F:DataW.TrodAll P ow W 0 (λ_=>jz) jz f3.4.1 args.1 R a7:=C;rw[params3]at F I;obtain⟨M,ay,b,az,g,q0,b5,rfl,rfl,Q,r0⟩:=mg F;obtain⟨T,b6,d1,b7,p1,q1,ad,rfl,rfl,U,r1⟩:=mg r0;obtain⟨Y,b8,d2,b9,p2,q2,ae,rfl,rfl,h2,r2⟩:=mg r1;obtain⟨v3,ba,d3,bb,p3,q3,af,rfl,rfl,h3,r3⟩:=mg r2;obtain⟨rfl,rfl,rfl⟩:=trodAll_nil r3;subst ad ae af;obtain rfl:args=#[M,T,Y,v3]:=by cases args;simp_all
 obtain⟨rfl,rfl⟩:=trodVars_none hV;have En:∀x∈g++(p1++(p2++(p3 ++ []))),x.block<W.1.size:=λx Z=>by simpa using A.lt x QV
 have bc:q8 b<=1048576:=by have h:Rows.uptoBulkAll ([b,d1,d2,d3] ++ [])<=1048576:=of_decide_eq_true E;simp[bL,Rows.uptoBulkAll]at h;omega
 have a8:=Q;clear C;have a1:=I 0 22 M rfl rfl;obtain⟨k,m,sc,rfl⟩:=okWide_slice underlying22 a1;obtain⟨bd,aa⟩:=Q;have n:∀{v:p8} {d:my H} {e:List ve} (j:Nat),wx ow W .any u 3 v->lu P ow W 0 (λ_=>jz) jz 3 v d e->∃x:Int,v=wy yh x/\d=.lit (.int yh x)/\e = []/\Ov x:=λj hv h=>by obtain⟨x,rfl⟩:=okWide_int underlying3 hv;obtain⟨bf,hm⟩:=h;obtain⟨y,a6,hs,hw⟩:=DataW.trod_int underlying3 hm;simp[Value.cells]at a6;subst a6;simp[dE]at hs;exact⟨x,rfl,hs.1,hs.2,bounds_i64 hw⟩
 obtain⟨N,rfl,rfl,rfl,i1⟩:=n 1 (I 1 3 T rfl rfl) U;obtain⟨f,rfl,rfl,rfl,i2⟩:=n 2 (I 2 3 Y rfl rfl) h2;obtain⟨V,rfl,rfl,rfl,i3⟩:=n 3 (I 3 3 v3 rfl rfl) h3;obtain⟨ah,ai,xs,aj,ak⟩:=Ai8 (y:=(b,g)) aa (by show q8 b<=_;omega);have bg:5 * m<=q8 b:=ai;obtain⟨L,al,p⟩:=Aj6 hM D;obtain⟨l,S,ao,aq⟩:=Aop D L.3 al p (k.map (·.1)).toList λx Z=>by simp[gF,bA]at Z;obtain⟨bh,rfl,rfl⟩:=Z;exact Ach underlying22 a1
 have ar:∀B,W.1.size<=B.1.size->(∀i<W.1.size,B.1[i]? = W.1[i]?)->(FJ W B->Rows.haltedSpec.post P ow ri vy jz vy vy W #[xh k m sc,wy yh N,wy yh f,wy yh V] (.bool jz) B):=by intro B bj q hs;(have same:∀x:ve,x.block<W.1.size->W.sameAt B x:=λx Z=>by cases x with| cell c o=>exact World.cell?_of_block (w:=W) (q c Z)| map c=>exact q c Z);have r:Rows.haltedSpec.3 H ([b,om (.int yh N),om (.int yh f),om (.int yh V)] ++ []) = { results:=[.lit (.bool jz)],args:=[b,om (.int yh N),om (.int yh f),om (.int yh V)] }:=rfl;(have O:∀{t:TypeId} {v:p8} {d:my H} {e:List ve},(t=22∨t=3)->lu P ow W 0 (λ_=>jz) jz t v d e->(∀x∈e,x.block<W.1.size)->lu P ow B 0 (λx=>decide (x<W.1.size)) jz t v d e:=λp hT K=>by obtain rfl|rfl:=p;exact Xh7;exact Xh7);have k0:=O (.inl rfl) a8 λx Z=>En x (by simp[Z]);(have k1:=O (.inr rfl) U λx Z=>by cases Z);(have k2:=O (.inr rfl) h2 λx Z=>by cases Z);(have k3:=O (.inr rfl) h3 λx Z=>by cases Z);refine⟨_,_,_,[],g++([]++([]++([] ++ []))),[],A,?_,?_,?_,⟨hs.1,hs.2,λi hi=>?_⟩,λh=>by cases h⟩;rw[r];exact trodAll_mk1 (shut_bool underlying4 _);rw[r];exact tc k0 (tc k1 (tc k2 (tc k3 trodAll_mk0)));rw[r];rfl;rw[q i hi];cases W.1[i]? with| none=>rfl| some o=>cases o <;> simp
 intro d;refine PG (W:=W.at d) (post:=λv J=>FJ W J/\(FJ W J->Rows.haltedSpec.post P ow ri vy jz vy vy W #[xh k m sc,wy yh N,wy yh f,wy yh V] v J)) (l:=l) ⟨S.1,S.2,S.3,S.4⟩ ?_ ⟨L.1,L.2,L.3,L.4,L.5,L.6⟩ (xs:=xs) ?_ aj ah Aa i1 i2 i3 (λc off x Z=>Amu D L.3 (x:=x) ⟨Z.1,Z.2,Z.3,Z.4,Z.5,Z.6⟩) (λc hb=>aq _ (by simp[hb])) λB hz ho hs=>⟨hs,ar B hz ho⟩;intro kind E;obtain⟨au,X,a,s⟩:=ao kind E;obtain⟨o,g4,g5⟩:=s.1;exact⟨au,X,a,⟨o,g4,g5⟩⟩;intro i x Z;obtain⟨c,off,X,a,s⟩:=ak i x Z;exact⟨c,off,X,⟨a.1,a.2,a.3,a.4,a.5,a.6⟩,s⟩
abbrev MD:Array p8:=#[xh zt 0 0,wy yh 0,wy yh 0,wy yh 0]
def Abe(d):laidMet ow Rows.haltedUptoRow.laid ((IH d).forCall (λ_ _=>0) ⟨#[],MD,[]⟩).memory:=
 (LaidIn.of_run (l:=[("unicode/utf8.acceptRanges",zl),("orchard/value.letters",yu),("orchard/message.requests",s8),("orchard/message.answers",zv),("orchard/file.schemas",iu),("orchard/watch.tellings",Rows.laid_orchard_watch_tellings),("unicode/utf8.first",zr)]) [6,7,0,3,2,4,5,13,14,15] 8 Ab Ab Ab Ab).met
def Aoh(d){H}(P:TypeId×p8->H):∃a,DataW.whole P ow ((IH d).forCall (λ_ _=>0) ⟨#[],MD,[]⟩).memory f3.params.toList Rows.haltedSpec.vars vy MD.toList 8=je ([.nil,.lit (.int yh 0),.lit (.int yh 0),.lit (.int yh 0)],[],a):=
 ⟨[],Ab⟩
set_option maxRecDepth 100000 in
def Aj9(e)(a:e.Started)(H)(P:TypeId×p8->H)(F) :
  ReturnsInLeavingWide {} checked e 3 .any ((r8 Rows.haltedSpec).preRow P ow ri Rows.haltedUptoRow.domain vy Rows.haltedUptoRow.laid) (((r8 Rows.haltedSpec).at F).post P ow ri vy jz vy vy):=by have ⟨i,Z⟩:=Aoh e P;exact DN   own a func3 (witness_row_atRef   vy _ MD rfl Ab Ab Ab (OpenSpec.preRow_of_cond 8 Z Ab (λk E=>by cases E;kernel_rfl) Ab (Abe e))) (λW b c R r d I h f g D=>TX H P W b c R r d I h (f _ rfl) g D)
end Go.Proofs.Y
