import Derived.Test.YtcbilgmfdgpomaaGreatDoorQ04
import Derived.Test.YtcbilgmfdgpomaaGreatDoorQ07
import Derived.Deep.WholeRow
set_option linter.all false
noncomputable section
set_option maxHeartbeats 2000000
set_option maxRecDepth 8000
open Option renaming some → ni,none → su
open Go.Proofs.Tryz renaming prog → qz,underlying37 → pgs,f64 → jnx,runUnderlying118 → mo,prog → Z
open Go renaming Value → w8,World → qg,Goroutine → o5,undef → uw,Code → oe,events_store → nk,Frame → zq,FuncId → pz,yielded → gu,Oper → km,TypeId → mi,results_none → pqk,storedEv → dnd,madeCells → eup,goexitEntry → ch0,heap_alloc_new → sx
open Bool renaming true → tu,false → o9
open Go.Exit renaming normal → cxv
open Go.World renaming frozen? → esk,cell? → sw,frozen?_setCell → zn,cell?_setCell_other → kn9,cell?_setCell_same → zo
open Go.Region renaming wanted → yg,ready → ktz
open Go.Mode renaming plain → uwj
open Go.Conc renaming events_results_none → kmq,events_results_tmp → xrg,served → jy
open List renaming range → jk,length → iR
open Go.Act renaming eval → hv6
open Array renaming replicate → pf,size → iS
open Go.Addr renaming add_lit → xo
open Go.IntKind renaming wrap_i64 → yd,u8 → zi
open Go.Value renaming int → pq,string → x7,pointer → w9,slice → um,bool → vp,tuple → my
open Go.Obj renaming cells → jf
open Or renaming inl → p8,inr → n9
open Go.Proofs.Tryz Orch
variable {B:gY}{Bs S X:hY}{Ch K M U b c d i j n off rb sb sm svb y:Nat}{E:Nat->Nat}{F I:iA}{H W a bs l m r:hQ}{L O e u v w:qg}{N:o5->qg->Prop}{R Y:iH}{T x:w8}{done:Array Bool}{en k t:Bool}{f fn:pz}{g:Array km}{h:Nat->w8×w8}{o:km}{p q:Prop}{pg:iF}{rc vc:iB}{rt:mi}{z:List zq}
def Dg9(h:p:=by
 rintro x O⟨y,U,rfl,g,C,E,v,s,⟨z,e,d⟩,p⟩;cases e;have K:=O3 s g C p E;exact⟨K,W.kx (λi V=>D3 g V) (λr Y=>K.block r (W.low.obj r Y) (t r Y)),U,λi D=>Rx g C D,by rw[Bj,C.1],d⟩):p:=h
def Nqc(k:q)(h:Hd q->p:=by
 intro kz;refine Br ?_;simp only[A0,As];exact kz.1):p:=h ⟨k⟩
def Vj2(k:q)(h:Hd q->p:=by
 intro kz;refine Au ?_;simp only[A0,As];exact kz.1):p:=h ⟨k⟩
def V2g(k:q)(h:Hd q->p:=by
 intro kz;refine Ar ?_;walk_nrm;exact kz.1):p:=h ⟨k⟩
def Wv2(k:q)(h:Hd q->p:=by
 intro kz;refine A2 (t:=true) G0 ?_;simp only[bP];exact kz.1):p:=h ⟨k⟩
def Ldr(k:q)(h:Hd q->p:=by
 intro kz
 iterate 4(refine Ar ?_;walk_nrm)
 exact kz.1):p:=h ⟨k⟩
def Trb(k:q)(h:Hd q->p:=by
 intro kz
 iterate 3(refine Ar ?_;walk_nrm)
 exact kz.1):p:=h ⟨k⟩
def R5v(k:q)(h:Hd q->p:=by
 intro kz
 iterate 2(refine Aw ?_)
 refine Ay ?_;exact kz.1):p:=h ⟨k⟩
def Ths(k:q)(h:Hd q->p:=by
 intro kz;refine Ar ?_;walk_nrm;refine Au ?_;simp only[A0,As];exact kz.1):p:=h ⟨k⟩
def Wad(k:q)(h:Hd q->p:=by
 intro kz
 iterate 2(refine Ar ?_;walk_nrm)
 exact kz.1):p:=h ⟨k⟩
def Rxn(k:q)(h:Hd q->p:=by
 intro kz;refine Aw ?_;refine Ay ?_;exact kz.1):p:=h ⟨k⟩
def Tdr(h:p:=by
 refine gO λo=>?_;simp[World.cell?,cS o]at g):p:=h
def Atk(h:p:=by
 simp[Instr.sliceAt,Instr.slice,Instr.sliceBounds,Instr.sliceBound,asIntOf,go_sem,Tryz.runUnderlying37,F,C,Result.evThen]):p:=h
def Mwc(k:q)(h:Hd q->p:=by
 intro kz;refine Ay ?_;refine Ar ?_;walk_nrm;exact kz.1):p:=h ⟨k⟩
def Qit(k:q)(h:Hd q->p:=by
 intro kz;refine Ay ?_
 iterate 2(refine Ar ?_;walk_nrm)
 exact kz.1):p:=h ⟨k⟩
def Zz1(h:p:=by
 walk_nrm;unfold execOp;simp only[resolve,invoke,builtin,Sem.run_bind,Sem.run_pure,Result.andThen_ok,cK,bA,cO];walk_nrm;rw[ad]
 rfl):p:=h
def Ock(h:p:=by
 refine⟨iP,iP,iP,by rw[Dd];exact aB _,λk E Z=>?_⟩;rw[Bu]
 grind):p:=h
def Wv1(k:q)(h:Hd q->p:=by
 intro kz;refine A2 (t:=false) Ac ?_;simp only[bP,bQ,aR];exact kz.1):p:=h ⟨k⟩
def Mtk(k:q)(h:Hd q->p:=by
 intro kz;walk_nrm
 iterate 5(refine Ar ?_;walk_nrm)
 exact kz.1):p:=h ⟨k⟩
def M8j(k:q)(h:Hd q->p:=by
 intro kz
 iterate 2(refine Aw ?_)
 exact kz.1):p:=h ⟨k⟩
def Zln(k:q)(h:Hd q->p:=by
 intro kz;refine Au ?_;simp only[A0,As];refine A2 (t:=false) Ac ?_;simp only[bP,bQ,aR];exact kz.1):p:=h ⟨k⟩
def Dzo(h:p:=by
 obtain⟨⟨t,h1,U⟩,a8⟩:=Z;rw[s.size]at U;exact⟨⟨t,h1,U⟩,B5 a8⟩):p:=h
def Cra(h:p:=by
 rw[aE Ae,aE Ae];exact S.tl b e):p:=h
def Thb(k:q)(h:Hd q->p:=by
 intro kz;refine Ds T iP (λw=>stepG_region_end) ?_;exact kz.1):p:=h ⟨k⟩
def Wjj(k:q)(h:Hd q->p:=by
 intro kz;refine EV.opPure (S:=env Lv) (fn:=46) (x:=x) E iP Ac (B7 Ab) (A4 _ _) (λw=>Ac) (λw=>Ac) ?_;exact kz.1):p:=h ⟨k⟩
def C2y(k:q)(h:Hd q->p:=by
 intro kz;refine Ds T iP (λw=>stepG_region) ?_;exact kz.1):p:=h ⟨k⟩
def Ckz(k:q)(h:Hd q->p:=by
 intro kz;refine Ds T iP (λw=>stepG_seq) ?_;exact kz.1):p:=h ⟨k⟩
def Vwr(k:q)(h:Hd q->p:=by
 intro kz;refine Aw ?_;refine Ay ?_;refine Dl (A7 kind B p o n K k) 131 ?_;walk_nrm;refine Au ?_;simp only[A0,As];have X:=Ba u (A7 kind B p o n K k) 131 iO;have af:=C.W.alloc (A7 kind B p o n K k) 131;have Y:(u.alloc (.cells (A7 kind B p o n K k) 131)).1[u.1.size]?=some (.cells (A7 kind B p o n K k) 131):=heap_alloc_new _ _;generalize u.alloc (.cells (A7 kind B p o n K k) 131)=u1 at X af Y⊢;revert u1 X af Y;exact kz.1):p:=h ⟨k⟩
def Smd(h:p:=by
 obtain⟨⟨t,h1,U⟩,a8⟩:=Z;rw[l.size]at U;exact⟨⟨t,h1,U⟩,B5 a8⟩):p:=h
def Dt7(h:p:=by
 refine⟨.inl ?_,?_⟩
 ·walk_nrm;go_simp
 ·walk_nrm;intro E he;simp[go_sem,c0,c1,c2,c3,c4,c5,c6]at he;rcases he with rfl|rfl|rfl|rfl|rfl|rfl|rfl<;>exact Cl λZ=>nr (C.W.2 _ Z)):p:=h
def Ogs(k:q)(h:Hd q->p:=by
 intro kz;refine A9.tp 0 w T L ?_;walk_nrm;refine A9.tp 1 w T L ?_;walk_nrm;refine A9.tp 2 w T L ?_;walk_nrm;exact kz.1):p:=h ⟨k⟩
def A80(k:q)(h:Hd q->p:=by
 intro kz;refine Ds T iP (λw=>stepG_region) ?_;simp only[bC,aU,aX,Nat.reduceAdd,aY,List.range,List.range.loop];exact kz.1):p:=h ⟨k⟩
namespace Go.Proofs
abbrev Tryz.link:Go.Conc.Lib.WgLink:={ add:=61,done:=63,wait:=65,relMerge:=94,disable:=95,enable:=96,inBubble:=97,associate:=98,fatal:=99,uOr:=100,uAdd:=101,raceRead:=102,uLoad:=103,uStore:=104,disassociate:=105,semrelease:=106,acquire:=110,isAssociated:=111,uCas:=112,raceWrite:=113,semacquire:=114,orU64:=152,addU64:=153,loadU64:=154,storeU64:=155,casU64:=157,tWgP:=157,tUP:=159,tAssoc:=160,tWg:=128,tAU:=125,tU64:=123,tUint:=71,tU32:=126,tPU32:=164,tPAU:=220,tPU64:=222,tNoCopy:=120,tANoCopy:=121,tAlign64:=122 }
def Tryz.wgLib:Go.Conc.Lib.WgLib Z Tryz.link:=
 ⟨func61,func63,func65,func94,func95,func96,func97,func98,func99,func100,func101,func102,func103,func104,func105,func106,func110,func111,func112,func113,func114,func152,func153,func154,func155,func157,underlying157,runUnderlying157,sizeOf157,isAgg157,zeroValue157,underlying159,runUnderlying159,sizeOf159,isAgg159,zeroValue159,underlying160,runUnderlying160,sizeOf160,isAgg160,zeroValue160,underlying128,runUnderlying128,sizeOf128,isAgg128,zeroValue128,underlying125,runUnderlying125,sizeOf125,isAgg125,zeroValue125,underlying123,runUnderlying123,sizeOf123,isAgg123,zeroValue123,underlying71,runUnderlying71,sizeOf71,isAgg71,zeroValue71,underlying126,runUnderlying126,sizeOf126,isAgg126,zeroValue126,underlying164,runUnderlying164,sizeOf164,isAgg164,zeroValue164,underlying220,runUnderlying220,sizeOf220,isAgg220,zeroValue220,underlying222,runUnderlying222,sizeOf222,isAgg222,zeroValue222,underlying0,runUnderlying0,sizeOf0,isAgg0,zeroValue0,underlying3,runUnderlying3,sizeOf3,isAgg3,zeroValue3,underlying4,runUnderlying4,sizeOf4,isAgg4,zeroValue4,underlying9,runUnderlying9,sizeOf9,isAgg9,zeroValue9,underlying20,runUnderlying20,sizeOf20,isAgg20,zeroValue20,underlying21,runUnderlying21,sizeOf21,isAgg21,zeroValue21,Ab,Ab⟩
end Go.Proofs
namespace Go.Proofs.YtcbilgmfdgpomaaGreatDoor
variable {Q:Exit->Act->qg->Prop}{args:Array Operand}
open Go Go.Conc Go.Pair Go.RowKit
def JY:Ia Z:=Aat Ab
def Lv:List pz:=[6,9,11,14,15,16,17,19,21,25,26,29,30,31,32,35,38,39,41,42,54,55,56,57,60,67,71,73,75,76,77,79,80,82,83,84,85,87,88,89,92,93,107,108,109,115,116,117,118,119,124,125,134,135,137,138,139,141,142,144,145,147,148,149,150,151,156,158,160,162,163,164,165,166,167,168,169,170,171,172,174,175,178,179,180,181,182,184,186,187,188,191,192,193,194,195,196,198,199,200,201,202,203,204,205,206,207,210,212,213,214,215,216,217,218,219,220,221,222,226,227,228,229,230,231,232,233,234,235,236,237,238,239,241,242,243,244,245,246,247,248,249,250,251,252,253,254,255,257,259,260,261,262,263,264,265,267,268,269,271]
def Alf:(Lv.all λf=>QU Z Lv f)=tu:=Ab
def Alo:=Adr JY λf I=>cR.1 Alf f I
def Alg:∀f,(Lv.contains f)=tu→∃u c,prog.funcs[f]? = ni u∧(u.name == "runtime.NumGoroutine")=o9∧u.body=ni c:=λf I=>by
 have ⟨u,c,C,J,T,_⟩:=Alo f (show f∈Lv by simpa using I)
 grind
def B7{fn}(h:opS Z (Lv.contains ·) noD fn o=tu):Nx Z (env Lv) fn o:=Adq JY Alg (λf I=>by simpa using I) (λg e=>BB) h
section
variable {J:hZ}
structure VW(J:hZ)(Bs u):Prop where
 rows:Go.Pair.RowsIn Bs u
 ji:∀a,J (.cell a)->Bs a.block
 jo:∀r,J (.obj r)->∃o,u.1[r]?=ni o/\o.isChan=tu
 jm:∀m,¬J (.mark m)
def VW.lt(h:VW J Bs u){i}(V:Bs i):i<iS u.1:=by
 have ⟨c,e,a,h⟩:=h.rows i V
 grind
def VW.low(h:VW J Bs u):Pp J u.1.size:=⟨λa d=>h.lt (h.2 a d),λr Y=>let⟨o,C,_⟩:=h.3 r Y;(aH.1 C).1⟩
def VW.blind(h:VW J Bs u):Kn J (Bb Bs u):=λe N W=>by
 have ⟨l,wr,Y⟩:=e;cases l with
 |cell a=>
  have ⟨x,Z⟩:=N;have:=Yp (Ga h.rows) (h.2 a W)
  grind
 |obj r=>
  have ⟨o,C,b⟩:=h.3 r W;have ⟨I,T,q,z⟩:=N;rw[Bu,C,aI]at T;obtain rfl:=aA T;refine⟨⟨r,iP⟩,z ?_⟩;split
  ·cases o<;>first|exact b|cases b
  ·exact b
 |mark m=>exact absurd W (h.4 m)
 |output=>exact N.elim
 |goroutines=>exact N.elim
def Yb(Bs:hY)(u v:qg):Prop:=Go.Pair.Twin (Bb Bs u) v
def Yb.size(h:Yb Bs u v):iS v.1=iS u.1:=by rw[h.1];exact Dd
def Yb.same(h:Yb Bs u v)(D:¬Bs i):v.1[i]?=u.1[i]?:=by
 rw[h.1,Bu]
 grind
def O3{U x}(C:Yb Bs u v)(J:Df Bs u x)(T:Go.Pair.Twin x U)(q:Ax v U X)(R:x.tape=u.tape):Ax u (Cb Bs u x) X:=by
 have a:=C.size;have N:iS U.1=iS x.1:=by rw[T.1]
 refine⟨?_,R,?_,by rw[Bj];have:=q.size;omega,λk E Z=>?_⟩
 ·show x.os=u.os;rw[←T.os,q.os,C.os];rfl
 ·show x.output=u.output;rw[←T.output,q.output,C.output];rfl
 ·by_cases D:Bs k
  ·exact D3 J D
  ·rw[By D,←T.1,←C.same D];exact q.block k Aa Z
def Rx{U x}(J:Df Bs u x)(T:Go.Pair.Twin x U)(D:¬Bs i):U.1[i]?=(Cb Bs u x).1[i]?:=by rw[By D,T.1]
def VW.kx(h:VW J Bs u)(E:∀i,Bs i->O.1[i]?=u.1[i]?)(a:∀r,J (.obj r)->O.1[r]?=u.1[r]?):VW J Bs O:=
 ⟨λi V=>by rw[E i V];exact h.rows i V,h.2,λr Y=>by rw[a r Y];exact h.3 r Y,h.4⟩
def VW.ofK(h:VW J Bs u)(E:Ax u O X)(C:∀i,Bs i->¬X i)(a:∀r,J (.obj r)->¬X r):=
 h.kx (λi V=>E.block i (h.lt V) (C i V)) λr Y=>E.block r (h.low.obj r Y) (a r Y)
def Gl{f}(I:f∈Lv)(W:VW J Bs u){args:iB}{R:iH}(t:∀r,J (.obj r)->¬X r)(H:∀v,Yb Bs u v->Calls Z f args v λe B=>(∃x,e=.returned x/\R x B)/\Ax v B X):Bg Z k J N f args u λx O=>Ax u O X/\VW J Bs O/\∃U,(∀i,¬Bs i->U.1[i]?=O.1[i]?)/\iS U.1=iS O.1/\R x U:=by
 refine Bp (M5 Alo (show f∈Lv from I) W.rows W.blind W.low (A4 _ _) (R:=λe B=>∃v,Yb Bs u v/\(∃x,e=.returned x/\R x B)/\Ax v B X) (λj v h=>?_) (λv h=>?_) (λv s=>(H v s).mono λe B h=>⟨v,s,h⟩)) ?_
 ·grind
 ·grind
 ·exact Dg9
end
section
variable {J:hZ} {a:Act} {v':qg} {M:Region.Mode} {G:km} {S:Env} {l:iG}
def JW(W:yg G (gu g a.tmps)=tu)(V:Nx Z S fn G)(j:S.reg fn a.tmps)(Y:∀e,(execOp a.eval G).run Z e=.ok (.value x) e)(N:∀e,(execOp a.eval G).events Z e #[]=#[]):YV Z J g I G x a:=
 ⟨λh=>absurd (W.symm.trans h) Ad,λ_ e _=>R6 V j Y N⟩
def Gq(W:yg G (gu g a.tmps)=tu)(V:Nx Z S fn G)(j:S.reg fn a.tmps)(h:∀e,I e->Go.Pair.Yields Z (execOp a.eval G) e x e/\∀b∈(execOp a.eval G).events Z e #[],Fb J b):YV Z J g I G x a:=
 ⟨λh=>absurd (W.symm.trans h) Ad,λ_ e o=>Qy V j (h e o).1 (h e o).2⟩
def Ca{m X}(H:Bg Z k J N f X e Y)(c:ktz M g done = [i])(O:g[i]?=ni o)(W:yg o (gu g a.tmps)=tu)(T:o.op=.call { callee:=.value (.func f),args,argTypes:=m })(d:args.map a.eval=X)(F:∀x B,Y x B->I B/\A9 Z k J N M g Q I b (done.setIfInBounds i tu) (a.put o.dst x) B)(E:args.all (Eg prog.globals.size)=tu:=by first|rfl|(simp[Eg];done)|kernel_rfl):=
 A9.only c (.call o f args m Y O W T E (by rwa[d]) F)
def AM(c:∀e d,I e->I (e.at d))(f:∀a e d,Q .normal a e->Q .normal a (e.at d))(O:g[i]?=ni o)(W:yg o (gu g a.tmps)=tu)(V:Nx Z S fn o)(j:S.reg fn a.tmps)(Y:∀d,Go.Pair.Yields Z (execOp a.eval o) (e.at d) x (v'.at d))(h:∀d,∀l∈(execOp a.eval o).events Z (e.at d) #[],Fb J l)(H:I v')(m:A9 Z k J N M g Q I b (done.setIfInBounds i tu) (a.put o.dst x) v'):DO Z k J N g i (λn B=>I B/\A9 Z k J N M g Q I b (done.setIfInBounds i tu) n B) a e:=
 .op o O W λ_ d=>⟨x,v'.at d,Qy V j (Y d) (h d),c _ d H,A9.at c f _ _ _ _ d m⟩
def Rb(c:∀e d,I e->I (e.at d))(f:∀a e d,Q .normal a e->Q .normal a (e.at d))(G:ktz M g done = [i])(O:g[i]?=ni o)(W:yg o (gu g a.tmps)=tu)(V:Nx Z S fn o)(j:S.reg fn a.tmps)(Y:∀d,Go.Pair.Yields Z (execOp a.eval o) (e.at d) x (v'.at d))(h:∀d,∀l∈(execOp a.eval o).events Z (e.at d) #[],Fb J l)(H:I v')(m:A9 Z k J N M g Q I b (done.setIfInBounds i tu) (a.put o.dst x) v'):=
 A9.only G (AM c f O W V j Y h H m)
def KT(G:ktz M g done = [i,j])(V:DO Z k J N g i (λl B=>I B/\A9 Z k J N M g Q I b (done.setIfInBounds i tu) l B) a e)(c:DO Z k J N g j (λl B=>I B/\A9 Z k J N M g Q I b (done.setIfInBounds j tu) l B) a e):A9 Z k J N M g Q I (b+1) done a e:=by
 refine⟨λh=>(by rw[G]at h;cases h),λd E=>?_⟩;rw[G]at E;simp at E;rcases E with rfl|rfl
 ·exact V
 ·exact c
def NB{m X}{K:Act->qg->Prop}(H:Bg Z k J N f X e Y)(O:g[i]?=ni o)(W:yg o (gu g a.tmps)=tu)(T:o.op=.call { callee:=.value (.func f),args,argTypes:=m })(b:args.map a.eval=X)(F:∀x B,Y x B->K (a.put o.dst x) B)(E:args.all (Eg prog.globals.size)=tu:=by first|rfl|(simp[Eg];done)|kernel_rfl):DO Z k J N g i K a e:=
 .call o f args m Y O W T E (by rwa[b]) F
def WM(W:VW J Bs e)(G:ktz M g done = [i])(O:g[i]?=ni o)(l:yg o (gu g a.tmps)=tu)(V:Nx Z S fn o)(j:S.reg fn a.tmps){R:iH}{X}(t:∀r,J (.obj r)->¬X r)(H:∀L,Yb Bs e L->∃x p,Go.Pair.Yields Z (execOp a.eval o) L x p/\R x p/\Ax L p X)(F:∀x B p,Ax e B X->VW J Bs B->(∀i,¬Bs i->p.1[i]?=B.1[i]?)->iS p.1=iS B.1->R x p->I B/\A9 Z k J N M g Q I b (done.setIfInBounds i tu) (a.put o.dst x) B):A9 Z k J N M g Q I (b+1) done a e:=by
 refine A9.only G (.op o O l λn v=>?_);obtain⟨x,u,C,c,T,L,s,q,z⟩:=BF (J:=J) (Bs:=Bs) V j W.rows W.blind W.low (R:=λx p=>∃L,Yb Bs e L/\R x p/\Ax L p X) (λL s=>let⟨x,p,m,d,f⟩:=H L s;⟨x,p,m,L,s,d,f⟩) v n;have K:=O3 (Bs:=Bs) s c (.refl u) z T;exact⟨x,_,C,F x _ u K (W.kx (λi h=>D3 c h) λr Y=>K.block r (W.low.obj r Y) (t r Y)) (λi D=>(By D).symm) (by rw[Bj]) q⟩
def Dy(W:VW J Bs e)(O:g[i]?=ni o)(b:yg o (gu g a.tmps)=tu)(V:Nx Z S fn o)(j:S.reg fn a.tmps){R:iH}{X}(t:∀r,J (.obj r)->¬X r)(H:∀L,Yb Bs e L->∃x p,Go.Pair.Yields Z (execOp a.eval o) L x p/\R x p/\Ax L p X)(F:∀x B p,Ax e B X->VW J Bs B->(∀i,¬Bs i->p.1[i]?=B.1[i]?)->iS p.1=iS B.1->R x p->opsV Z k J N fn g l Q (a.put o.dst x) B):=
 YT (S:=S) (Bs:=Bs) O b V j W.rows W.blind W.low (R:=λx p=>∃L,Yb Bs e L/\R x p/\Ax L p X) (λL s=>let⟨x,p,m,d,f⟩:=H L s;⟨x,p,m,L,s,d,f⟩) λx u c T⟨L,s,q,z⟩=>
  have K:=O3 (Bs:=Bs) s c (.refl u) z T
  F x _ u K (W.kx (λi h=>D3 c h) λr Y=>K.block r (W.low.obj r Y) (t r Y)) (λi D=>(By D).symm) (by rw[Bj]) q
def A3{m X n}(H:Bg Z k J N f X e n)(O:g[i]?=ni o)(W:yg o (gu g a.tmps)=tu)(T:o.op=.call { callee:=.value (.func f),args,argTypes:=m })(b:args.map a.eval=X)(F:∀v B,n v B->opsV Z k J N fn g l Q (a.put o.dst v) B)(E:args.all (Eg prog.globals.size)=tu:=by first|rfl|(simp[Eg];done)|kernel_rfl):=
 EX O W T (by rwa[b]) F E
end
def na:(∀l:List w8,l.toArray.size=iR l)/\(∀(a:w8) l,(a::l).length=iR l+1)/\([]:iC).length=0/\(∀n (a:w8),pf (n+1) a=(pf n a).push a)/\(∀a:w8,pf 0 a=#[])/\(∀(l:iC) a,l.toArray.push a=(l++[a]).toArray)/\(∀l m:List w8,l.toArray++m.toArray=(l++m).toArray)/\(∀l:List w8,[]++l=l)/\∀(a:w8) l m,a::l++m=a::(l++m):=by
 refine⟨?_,?_,?_,?_,?_,?_,?_,?_,?_⟩<;>intros<;>first|rfl|exact dF|simp
section
variable {P:Program} {J:hZ} {j:pz} {a:Act} {l:iG}
def Ay(h:opsV P k J N j g l Q a e)(K:List.range g.size=l:=by(simp only[bC,aU,aX,Nat.reduceAdd,aY,List.range,List.range.loop];exact iP)):Hj P k J N j (.region n g false) Q a e:=Pd (K▸h)
def Ar{x}(h:opsV Tryz.prog k J N j g l Q (a.put o.dst x) e)(O:g[i]?=some o:=by exact iP)(W:Region.wanted o (yielded g a.tmps)=true:=by rfl)(V:Nx Tryz.prog (env Lv) j o:=by exact B7 Ab)(Y:∀e,(execOp a.eval o).run Tryz.prog e=.ok (.value x) e:=by(intro b;first|rfl|(go_simp;done)|(go_simp;rfl)))(c:∀e,(execOp a.eval o).events Tryz.prog e #[]=#[]:=by(intro b;first|rfl|(go_simp;done)|(go_simp;rfl))):=Fh (S:=env Lv) O W V (A4 _ _) Y c h
def B6(x)(h:opsV Tryz.prog k J N j g l Q (a.put o.dst x) e)(O:g[i]?=some o:=by exact iP)(W:Region.wanted o (yielded g a.tmps)=true:=by rfl)(V:Nx Tryz.prog (env Lv) j o:=by exact B7 Ab)(Y:∀e,(execOp a.eval o).run Tryz.prog e=.ok (.value x) e:=by(intro b;first|rfl|(go_simp;done)|(go_simp;kernel_rfl)|(go_simp;rfl)))(c:∀e,(execOp a.eval o).events Tryz.prog e #[]=#[]:=by(intro b;first|rfl|(go_simp;done)|(go_simp;rfl))):=Fh (S:=env Lv) O W V (A4 _ _) Y c h
def Bq{u x p}(M:u.cell? p=some x)(e:¬J (.cell p))(h:opsV Tryz.prog k J N j g l Q (a.put o.dst x) u)(O:g[i]?=some o:=by exact iP)(W:Region.wanted o (yielded g a.tmps)=true:=by rfl)(V:Nx Tryz.prog (env Lv) j o:=by exact B7 Ab)(Y:∀d,(u.at d).cell? p=some x->(execOp a.eval o).run Tryz.prog (u.at d)=.ok (.value x) (u.at d):=by(intro f b;walk_nrm;go_simp))(m:¬J (.cell p)->∀d,(u.at d).cell? p=some x->∀n∈(execOp a.eval o).events Tryz.prog (u.at d) #[],Fb J n:=by(intro q f b;walk_nrm;intro D c;simp[go_sem,b]at c;subst c;exact Cl q)):=Cy (S:=env Lv) O W V (A4 _ _) (λd=>.inl (Y d M)) (λd=>m e d M) h
def Dl{u}(cs I)(h:opsV Tryz.prog k J N j g l Q (a.put o.dst (.pointer (some ⟨iS u.1,0,none⟩))) (u.alloc (.cells cs I)))(O:g[i]?=some o:=by exact iP)(W:Region.wanted o (yielded g a.tmps)=true:=by rfl)(V:Nx Tryz.prog (env Lv) j o:=by exact B7 Ab)(Y:∀d,(execOp a.eval o).run Tryz.prog (u.at d)=.ok (.value (.pointer (some ⟨iS u.1,0,none⟩))) ((u.alloc (.cells cs I)).at d):=by(intro b;walk_nrm;go_simp;first|done|rfl|exact⟨iP,iP⟩))(c:∀d,∀e∈(execOp a.eval o).events Tryz.prog (u.at d) #[],Fb J e:=by(intro b;walk_nrm;intro D f;simp[go_sem]at f)):opsV Tryz.prog k J N j g (i::l) Q a u:=Cy (S:=env Lv) O W V (A4 _ _) (λd=>.inl (Y d)) c h
end
def A9.tp{J}{b:Goroutine->World->Prop}{g}{I:World->Prop}{a w M}{Q:Exit->Act->World->Prop}{G x d}(i)(o:∀w e,I w->I (w.at e))(f:∀a w e,Q .normal a w->Q .normal a (w.at e))(H:I w)(h:A9 Tryz.prog d J b M g Q I c (done.setIfInBounds i true) (a.put G.dst x) w)(V:g[i]?=some G:=by exact iP)(s:Region.noSelect g=true:=by kernel_rfl)(j:Region.free M g done i=true:=by kernel_rfl)(Y:(Region.ready M g done).contains i=true:=by kernel_rfl)(W:Region.wanted G (yielded g a.tmps)=true:=by rfl)(k:Nx Tryz.prog (env Lv) 0 G:=by exact B7 Ab)(Z:∀w,(execOp a.eval G).run Tryz.prog w=.ok (.value x) w:=by(intro l;first|rfl|(go_simp;done)|(go_simp;rfl)))(N:∀w,(execOp a.eval G).events Tryz.prog w #[]=#[]:=by(intro l;first|rfl|(go_simp;done)|(go_simp;rfl))):A9 Tryz.prog d J b M g Q I (c+1) done a w:=A9.take o f V s j Y (JW (S:=env Lv) W k (A4 _ _) Z N) H h
def A9.tl{J}{b:o5->qg->Prop}{a M G d p}(i)(o:∀w e,I w->I (w.at e))(k:∀a w e,Q .normal a w->Q .normal a (w.at e))(H:I w)(f:∀w,I w->w.cell? p=ni x)(l:¬J (.cell p))(m:A9 qz d J b M g Q I c (done.setIfInBounds i tu) (a.put G.dst x) w)(V:g[i]?=ni G:=by exact iP)(s:Region.noSelect g=tu:=by kernel_rfl)(n:Region.free M g done i=tu:=by kernel_rfl)(Y:(ktz M g done).contains i=tu:=by kernel_rfl)(W:yg G (gu g a.tmps)=tu:=by rfl)(q:Nx qz (env Lv) 0 G:=by exact B7 Ab)(Z:∀w,w.cell? p=ni x->(execOp a.eval G).run qz w=.ok (.value x) w:=by(intro r h;walk_nrm;go_simp))(N:∀w,w.cell? p=ni x->¬J (.cell p)->∀t∈(execOp a.eval G).events qz w #[],Fb J t:=by(intro r h u;walk_nrm;intro D j;simp[go_sem,h]at j;subst j;exact Cl u)):A9 qz d J b M g Q I (c+1) done a w:=
 A9.take o k V s n Y (Gq (S:=env Lv) W q (A4 _ _) λw W=>⟨p8 (Z w (f w W)),N w (f w W) l⟩) H m
section
variable {J:hZ} {a:w8} {tl:Bool}
def Ce(h:v.1[b]?=u.1[b]?):v.cell? (iK b j)=u.cell? (iK b j):=by unfold sw;rw[h]
def Nb(h:v.1[b]?=u.1[b]?):v.frozen? (iK b j)=u.frozen? (iK b j):=by unfold esk;rw[h]
def Di{X:iC}(h:u.ownsRow 0 5 1 a n X)(E:∀g,a.ownBlock=ni g->L.1[g]?=u.1[g]?):L.ownsRow 0 5 1 a n X:=by
 obtain⟨F,C|⟨g,I,H,rfl,J,T,q⟩⟩:=h
 ·exact⟨F,p8 C⟩
 ·exact⟨F,n9 ⟨g,I,H,iP,J,by rwa[E g iP],q⟩⟩
def Cm{X:iC}(h:u.ownsRow 0 5 1 a n X){g}(G:a.ownBlock=ni g):g<iS u.1:=by
 obtain⟨_,⟨rfl,_⟩|⟨R,I,H,rfl,_,T,_⟩⟩:=h
 ·cases G
 ·obtain rfl:R=g:=by simpa[Value.ownBlock] using G
  exact ltOf T
def LD(h:Bytes w b off r)(F:0<iR r):b<iS w.1:=by
 have g:=h 0 F;exact Tdr
def Uk(h:Bytes u b off r)(K:Ax u O X)(t:¬X b):Bytes O b off r:=λi V=>(Ce (K.block b (LD h Aa) t)).trans (h i V)
def Ba(w)(cs:iB)(I X):Ax w (w.alloc (jf cs I)) X:=Ax.of_below (Be _ _) (aB _)
def VW.alloc(W:VW J Bs w)(cs:iB)(I):=W.ofK (Ba w cs I λ_=>False) (λ_ _ h=>h) λ_ _ h=>h
def VW.at(W:VW J Bs u)(d):VW J Bs (u.at d):=⟨W.rows,W.2,W.3,W.4⟩
def Ax.at(h:Ax u O X)(d):Ax u (O.at d) X:=⟨h.os,h.tape,h.output,h.size,h.block⟩
def Ax.ofAt(h:Ax (u.at d) O X):Ax u O X:=⟨h.os,h.tape,h.output,h.size,h.block⟩
def Et(w b j x):Ax w (w.setCell (iK b j) x) (· = b):=
 ⟨iP,iP,iP,Ad,λk E Z=>Ef _ _ Z⟩
def Ae2(h:Go.Pair.RowsIn Bs w):Go.Pair.RowsIn Bs (w.setCell (iK b j) x):=λi V=>by
 have ⟨c,e,a,C⟩:=h i V;by_cases D:i=b
 ·refine⟨c.setIfInBounds j x,e,a,?_⟩;unfold World.setCell
  grind
 ·exact⟨c,e,a,by rwa[Ef _ _ D]⟩
def Jl(c:iB):Prop:=∀x∈c,∀m,A1 m x=x
def Jl.map{c}(h:Jl c)(m):c.map (A1 m)=c:=by
 refine bV λi=>?_;rw[aN];cases V:c[i]? with
 |none=>rfl
 |some x=>rw[aI,h x (cI V)]
def IntsIn(u:qg)(a:w8):Prop:=∀g cc,a.ownBlock=ni g->u.1[g]?=ni (jf cc 5 (0,0))->Jl cc
structure Mz(J Bs u sb U a tl)(l:hQ):Prop where
 W:VW J Bs u
 inb:Bs sb
 j0:¬J (.cell (iK sb U))
 j1:¬J (.cell ⟨sb,U+1,su⟩)
 c0:u.cell? (iK sb U)=ni a
 c1:u.cell? ⟨sb,U+1,su⟩=ni (vp tl)
 f0:u.frozen? (iK sb U)=o9
 f1:u.frozen? ⟨sb,U+1,su⟩=o9
 own:u.ownsRow 0 5 1 a (iR l) (A5 l)
 ap:∀g,a.ownBlock=ni g->¬Bs g
 ints:IntsIn u a
def Mz.at(C:Mz J Bs u sb U a tl l)(d):Mz J Bs (u.at d) sb U a tl l:=⟨C.W.at d,C.inb,C.j0,C.j1,C.c0,C.c1,C.f0,C.f1,C.own,C.ap,C.ints⟩
def Mz.kx(C:Mz J Bs u sb U a tl l)(K:Ax u O X)(W:VW J Bs O)(t:¬X sb)(H:∀g,a.ownBlock=ni g->¬X g):Mz J Bs O sb U a tl l:=
 have e:=K.block sb (C.W.lt C.inb) t
 ⟨W,C.inb,C.j0,C.j1,(Ce e).trans C.c0,(Ce e).trans C.c1,(Nb e).trans C.f0,(Nb e).trans C.f1,Di C.own λg G=>K.block g (Cm C.own G) (H g G),C.ap,λg b G h=>C.ints g b G ((K.block g (Cm C.own G) (H g G)).symm.trans h)⟩
def Mz.slice(C:Mz J Bs u sb U a tl l):∃b c,a=um b (iR l) c:=by
 rcases C.own with⟨_,⟨rfl,h⟩|⟨g,I,H,rfl,_⟩⟩
 ·grind
 ·exact⟨_,_,iP⟩
def Wt(h:w.ownsRow 0 5 1 a (iR l) (A5 l))(F:0<iR l):∃g I,a=um (ni (iJ g)) (iR l) I/\iR l<=I/\Bytes w g 0 l:=by
 obtain⟨_,⟨_,C⟩|⟨g,I,H,rfl,_,D,M,L,s,R⟩⟩:=h
 ·omega
 ·refine⟨g,I,iP,M,λi V=>?_⟩;have a1:(H.toList.take (iR l * 1))[i]?=ni (pq zi l[i].toNat):=by rw[R];simp[A5,aG V]
  rw[dE Aa,cN]at a1;rw[aY];exact cellOf D a1
def Gn(l:hQ):Int:=if iR l<4 then 4 - iR l else 4+uns (l.take 4) - iR l
def lenOf(l:hQ):Nat:=if iR l<4 then 0 else uns (l.take 4)
def Adb(l):lenOf l<4294967296:=by
 unfold lenOf;split
 ·omega
 ·have:=uns_lt (l.take 4)
  grind
def Qe(w X)(a:iE)(d I:Nat)(h:Int)(F:0<=h)(C:h<=I):(Instr.sliceAt 37 (um a d I) su (ni (iL h)) su).events Z w X=X:=by
 exact Atk
def Xp(w X)(a:iE)(b I:Nat)(l:Int)(F:0<=l)(C:l<=b):(Instr.sliceAt 37 (um a b I) (ni (iL l)) su su).events Z w X=X:=by
 exact Atk
def US(C:Mz J Bs u sb U a tl l):Bg qz k J N 108 #[w9 (ni (iK sb U))] u λy O=>y=pq .u64 (lenOf l)/\Ax u O iO/\Mz J Bs O sb U a tl l:=by
 obtain⟨F,b,rfl⟩:=C.slice;have c0:=C.c0;refine Bh func108 Ac iP (R:=λv=>v.getD 2 uw) (λ_ _=>results_tmp Ac _ _ _) (λ_ _=>xrg Ac _ _) ?_;simp only[ntmps108,na,Nat.reduceAdd,Nat.reduceSub];refine Rxn ?_;refine Ths ?_;refine R5v ?_;refine Trb ?_;refine Bq c0 C.j0 ?_;walk_nrm;refine V2g ?_;by_cases q:iR l<4
 ·have S:(iR l:Int)<4:=Aa;refine Ths ?_;refine Wv2 ?_;refine Rxn ?_;refine Ths ?_;refine Dm ?_;simp only[A0];exact⟨n9 trivial,trivial,by unfold lenOf;rw[aJ q];rfl,.refl _ _,C⟩
 ·have S:¬(iR l:Int)<4:=Aa;refine Ths ?_;refine A2 (t:=o9) HQ ?_;simp only[bQ,aR];refine Nqc ?_;obtain⟨g,c,e,M,o⟩:=Wt C.own Aa;cases e;have t:(4:Int)<=(b:Int):=Aa;refine Rxn ?_;refine Trb ?_;refine Bq c0 C.j0 ?_;walk_nrm;refine Fh (S:=env Lv) (x:=um (ni (iJ g)) 4 b) iP Ac (B7 Ab) (A4 _ _) Aj4 (λm=>by have r:=λX=>Qe m X (ni (iJ g)) (iR l) b 4 Aa t;go_simp;first|done|rfl) ?_;walk_nrm;refine A3 (Gl (f:=156) (args:=#[um (ni (iJ g)) 4 b]) Ae C.W (X:=λ_=>False) (R:=λx _=>x=pq .u64 (uns (l.take 4))) (λ_ _ h=>h) λL s=>?_) iP Ac iP Af ?_
  ·exact(Iu L g 0 4 b (l.take 4) Ah Aa λi V=>by
    have p:i<iR l:=by simp at V;omega
    rw[List.getElem_take];exact(Ce (s.same (C.ap g iP))).trans (o i p)).mono λe B h=>⟨⟨_,h.1,iP⟩,by rw[h.2];exact Ax.refl _ _⟩
  rintro y Z⟨H,P,_,_,_,rfl⟩;walk_nrm;refine Ths ?_;refine Dm ?_;exact⟨n9 iP,iP,by unfold lenOf;rw[aL q];rfl,H,C.kx H P (λh=>h) λ_ _ h=>h⟩
def MQ(C:Mz J Bs u sb U a tl l)(K:iR l<=5000):Bg qz k J N 107 #[w9 (ni (iK sb U))] u λy O=>y=iL (Gn l)/\Ax u O iO/\Mz J Bs O sb U a tl l:=by
 obtain⟨F,d,rfl⟩:=C.slice;have c0:=C.c0;have W:∀x:Int,-9223372036854775808<=x->x<=9223372036854775807->IntKind.i64.wrap x=x:=λx m p=>by rw[yd];omega
 refine Bh func107 Ac iP (R:=λv=>v.getD 2 uw) (λ_ _=>results_tmp Ac _ _ _) (λ_ _=>xrg Ac _ _) ?_;simp only[ntmps107,na,Nat.reduceAdd,Nat.reduceSub];refine Rxn ?_;refine Ths ?_;refine R5v ?_;refine Trb ?_;refine Bq c0 C.j0 ?_;walk_nrm;refine V2g ?_;by_cases q:iR l<4
 ·have S:(iR l:Int)<4:=Aa;refine Ths ?_;refine Wv2 ?_;refine Rxn ?_;refine Trb ?_;refine Bq c0 C.j0 ?_;walk_nrm;refine Trb ?_;refine Vj2 ?_;refine Dm ?_;simp only[A0];exact⟨n9 trivial,trivial,by unfold Gn;rw[aJ q];show Value.int _ (IntKind.i64.wrap _)=_;rw[W _ Aa Aa],.refl _ _,C⟩
 ·have S:¬(iR l:Int)<4:=Aa;refine Ths ?_;refine A2 (t:=o9) HQ ?_;simp only[bQ,aR];refine Nqc ?_;have r:=Adb l;refine Aw ?_;have o:∀(w:qg)(e:Nat),w.cell? (iK sb U)=ni (um F (iR l) d)->(w.at e).cell? (iK sb U)=ni (um F (iR l) d):=λ_ _ h=>h;refine Cr (Q:=λf c B=>f=.normal/\c.defers = []/\c.tmps[2]?.getD uw=iL (Gn l)/\Ax u B iO/\Mz J Bs B sb U (um F (iR l) d) tl l) ?_ λf c B h=>by
   obtain⟨rfl,h⟩:=h;simp only[A0];exact Dm ⟨n9 iP,h⟩
  have b:∀(c:Act)(w:qg)(e:Nat),((cxv=cxv)/\c.defers = []/\c.tmps[2]?.getD uw=iL (Gn l)/\Ax u w iO/\Mz J Bs w sb U (um F (iR l) d) tl l)->((cxv=cxv)/\c.defers = []/\c.tmps[2]?.getD uw=iL (Gn l)/\Ax u (w.at e) iO/\Mz J Bs (w.at e) sb U (um F (iR l) d) tl l):=
   λc w e⟨g,i,z,G,X⟩=>⟨g,i,z,G.at e,X.at e⟩
  refine Em (I:=λw=>w.cell? (iK sb U)=ni (um F (iR l) d)) Ac λj=>?_;refine A9.tp 0 o b c0 ?_;walk_nrm;refine A9.tp 4 o b c0 ?_;walk_nrm;refine A9.tp 5 o b c0 ?_;walk_nrm;refine A9.tp 6 o b c0 ?_;walk_nrm;refine A9.tl 7 o b c0 (λw (h:w.cell? (iK sb U)=ni (um F (iR l) d))=>h) C.j0 ?_;walk_nrm;refine A9.tp 8 o b c0 ?_;walk_nrm;refine Ca (i:=1) (US (C.at j)) Ab iP Ac iP Af ?_;rintro y Z⟨rfl,H,n⟩;refine⟨n.c0,?_⟩;walk_nrm;refine A9.tp 2 o b n.c0 ?_;walk_nrm;refine A9.tp 3 o b n.c0 ?_;walk_nrm;refine A9.tp 9 o b n.c0 ?_;walk_nrm;refine A9.tp 10 o b n.c0 ?_;walk_nrm;refine A9.all Ab ⟨iP,iP,?_,H.ofAt,n⟩ _
  show Value.int _ _=_;unfold Gn;rw[aL q];have s:(lenOf l:Int)=uns (l.take 4):=by unfold lenOf;rw[aL q]
  rw[←s];rw[W (lenOf l:Int) Aa Aa,W (4+(lenOf l:Int)) Aa Aa,W _ Aa Aa]
def Mb(x o j cap:Nat):Option Addr:=if cap=j then ni (iK x o) else ni ⟨x,o+j,su⟩
def Ann(C:Mz J Bs u sb U a tl l)(h4:4<=iR l)(hl:iR l<=5000):Bg qz k J N 109 #[w9 (ni (iK sb U))] u λy O=>y=um (ni (iJ u.1.size)) (iR l - 4) (iR l - 4)/\O.1[iS u.1]?=ni (jf (A5 (l.drop 4)).toArray 5)/\Ax u O iO/\Mz J Bs O sb U a tl l:=by
 obtain⟨g,b,rfl,hc,T⟩:=Wt C.own Aa;have c0:=C.c0;obtain⟨e,V,o,G,Y⟩:=info_parts Tryz.info5;have ad:IntKind.i64.wrap ((iR l:Int) - 4)=iR l - 4:=by rw[yd];omega
 have D:(A5 (l.drop 4)).length=iR l - 4:=by simp[A5]
 refine Bh func109 Ac iP (R:=λv=>v.getD 2 uw) (λ_ _=>results_tmp Ac _ _ _) (λ_ _=>xrg Ac _ _) ?_;simp only[ntmps109,na,Nat.reduceAdd,Nat.reduceSub];refine Rxn ?_;refine Ths ?_;refine Rxn ?_;refine Trb ?_;refine Bq c0 C.j0 ?_;walk_nrm;refine V2g ?_;refine B6 (iL ((iR l:Int) - 4)) ?_;walk_nrm;refine Dy (i:=6) (S:=env Lv) C.W iP Ac (B7 Ab) (A4 _ _) (X:=λ_=>False) (R:=λx A=>x=um (ni (iJ u.1.size)) (iR l - 4) (iR l - 4)/\A.1[iS u.1]?=ni (jf (eup #[Value.int zi 0] (iR l - 4)) 5)) (λ_ _ d=>d) (λw s=>?_) ?_
 ·have F:=run_make (P:=qz) w 37 5 e _ pgs V o .i64 .i64 ((iR l:Int) - 4) ((iR l:Int) - 4) Aa Aa (by rw[Y];omega) Aa;rw[show((iR l:Int) - 4).toNat=iR l - 4 by omega,G,gI]at F;refine⟨um (ni (iJ w.1.size)) (iR l - 4) (iR l - 4),w.alloc (jf (eup #[Value.int zi 0] (iR l - 4)) 5),p8 ?_,⟨by rw[s.size],by rw[←s.size];exact sx _ _⟩,Ba _ _ _ _⟩;walk_nrm;go_simp
 rintro y u1 E h W1 H z⟨rfl,B⟩;have p:=C.kx h W1 (λd=>d) λ_ _ d=>d;have W:¬Bs u.1.size:=λd=>by have:=C.W.lt d;omega
 rw[H _ W]at B;have a1:=Uk T h λd=>d;clear H z E;walk_nrm;refine Ths ?_;refine Rxn ?_;refine Ldr ?_;refine Bq p.c0 C.j0 ?_;walk_nrm;have t:(4:Int)<=(iR l:Int):=Aa;have h6:(iR l:Int)<=(b:Int):=Aa;refine Fh (S:=env Lv) (x:=um (Mb g 0 4 b) (iR l - 4) (b - 4)) iP Ac (B7 Ab) (A4 _ _) Aj4 (λm=>by have r:=λX=>Xp m X (ni (iJ g)) (iR l) b 4 Aa t;go_simp;first|done|rfl) ?_;walk_nrm;obtain⟨I,a6,a7⟩:∃I,Mb g 0 4 b=ni (iK g I)/\(4<iR l->I=4):=by
  unfold Mb;split
  ·exact⟨0,iP,λ_=>Aa⟩
  ·exact⟨4,iP,λ_=>rfl⟩
 rw[a6];refine Dy (i:=6) (S:=env Lv) p.W iP Ac (B7 Ab) (A4 _ _) (X:=λi=>i=iS u.1) (R:=λx A=>A.1[iS u.1]?=ni (jf (A5 (l.drop 4)).toArray 5)) (λae hr d=>?_) (λw s=>?_) ?_
 ·subst d;obtain⟨af,K,a8⟩:=p.W.3 _ hr;rw[B]at K;obtain rfl:=aA K;cases a8
 ·have L:w.1[iS u.1]?=ni (jf (eup #[Value.int zi 0] (iR l - 4)) 5):=(s.same W).trans B;have M:=run_copy_row (P:=qz) w 37 37 3 5 u.1.size 0 (iR l - 4) (iR l - 4) (iK g I) (iR l - 4) (b - 4) _ 5 (A5 (l.drop 4)) pgs (by rw[V];simp[G]) L (by rw[D];exact(Nat.min_self _).symm)
   (λq x f=>by
    have aa:q<(l.drop 4).length:=by have:=(aD.1 f).1;simpa[A5] using this
    have P:4+q<iR l:=by simp at aa;omega
    have Q:=a1 (4+q) P;have e2:x=pq zi (l[4+q].toNat):=by
     simp only[A5,aT,List.getElem?_drop,aG P,aI,aW]at f;exact f.symm
    rw[xo,e2,a7 Aa];rw[aY]at Q;exact(Ce (s.same (C.ap g iP))).trans Q) (by rw[D,size_madeCells];omega) (λx Z=>by
     obtain⟨y,_,rfl⟩:=aZ.1 Z
     rfl)
  have e1:(List.take 0 (eup #[Value.int zi 0] (iR l - 4)).toList++A5 (l.drop 4)++List.drop (0+(A5 (l.drop 4)).length) (eup #[Value.int zi 0] (iR l - 4)).toList).toArray=(A5 (l.drop 4)).toArray:=by
   congr 1
   rw[toList_madeCells_one,List.drop_replicate,D,show iR l - 4 - (0+(iR l - 4))=0 by omega];simp
  rw[e1]at M;refine⟨_,_,p8 (by walk_nrm;unfold execOp;simp only[resolve,invoke,builtin,Sem.run_bind,Sem.run_pure,Result.andThen_ok,cK,bA,cO];walk_nrm;rw[M];rfl),?_,?_⟩
  ·exact setRow_heap _ _ _ _ _ _ L
  ·exact⟨iP,iP,iP,Ad,λj n Z=>setRow_other _ _ _ _ Z⟩
 rintro y u2 L2 c W2 ab ah R;rw[ab _ W]at R;have C2:=p.kx c W2 (λS=>by have:=C.W.lt C.inb;omega) λg' hg S=>by
  have:=Cm C.own hg;omega
 walk_nrm;refine Vj2 ?_;refine Rxn ?_;refine Wad ?_;refine Vj2 ?_;refine Dm (⟨n9 iP,iP,iP,R,?_,C2⟩);exact⟨c.os.trans h.os,c.tape.trans h.tape,c.output.trans h.output,aF h.size c.size,λj n _=>(c.block j (aC n h.size) λS=>Aa).trans (h.block j n λd=>d)⟩
end
structure Pl(p):Prop where
 pos:0<Gn p
 len:lenOf p<=1000
def nn(p bs:hQ):Nat:=if(iR bs:Int)<Gn p then iR bs else(Gn p).toNat
def De(p bs:hQ):hQ:=p++bs.take (nn p bs)
def I9:Pl []:=⟨Ae,Ae⟩
def Ih(p):Gn p=if iR p<4 then 4 - (iR p:Int) else 4+lenOf p - iR p:=by
 unfold Gn lenOf
 grind
def Pl.lt{p}(h:Pl p):iR p<1004:=by
 have C:=h.pos;have J:=h.len;rw[Ih]at C;split at C<;>omega
def Adk{p}(h:Pl p)(D:W≠[]):0<nn p W:=by
 have:=eV.2 D;have:=h.pos;unfold nn;split<;>omega
def MV(p W):nn p W<=iR W:=by
 unfold nn;split<;>omega
def Alk{p bs:hQ}(h:Pl p):(if(iR bs:Int)<Gn p then(iR bs:Int) else Gn p)=(nn p bs:Int):=by
 have:=h.pos;unfold nn;split<;>omega
def VB{p bs}(h:Pl p):(nn p bs:Int)<=Gn p:=by
 have:=h.pos;unfold nn;split<;>omega
def Oa{p bs}:(De p bs).length=iR p+nn p bs:=by
 have:=MV p bs;simp[De];omega
def AH{p bs}(h:Pl p):(De p bs).length<=1004:=by
 have C:=h.len;have J:=VB (bs:=bs) h;rw[Ih]at J;rw[Oa];split at J<;>omega
def RN{p bs}(h:Pl p):0<=Gn (De p bs):=by
 have J:=VB (bs:=bs) h;have T:=Oa (p:=p) (bs:=bs);rw[Ih]at J;rw[Ih];split
 ·omega
 ·rename_i q;by_cases Q:iR p<4
  ·omega
  ·have:lenOf (De p bs)=lenOf p:=by
    unfold lenOf;rw[aL q,aL Q]
    congr 1
    unfold De
    grind
   omega
def Mk{p}(h:Pl p)(K:lenOf (De p bs)<=1000)(L:Gn (De p bs)≠0):Pl (De p bs):=
 ⟨by have:=RN (bs:=bs) h;omega,K⟩
def GB{p}(L:Gn p=0):4<=iR p:=by
 rw[Ih]at L;split at L<;>omega
inductive E6:hQ->hQ->List (hQ)->hQ->Bool->Prop
 |done (p:hQ):E6 p [] [] p o9
 |long {p bs:hQ}:bs≠[]->1000<lenOf (De p bs)->E6 p bs [] [] tu
 |body {p bs:hQ} {Ea:gY} {q} {t}:bs≠[]->lenOf (De p bs)<=1000->Gn (De p bs)=0->E6 [] (bs.drop (nn p bs)) Ea q t->E6 p bs ((De p bs).drop 4::Ea) q t
 |more {p bs:hQ} {Ea:gY} {q} {t}:bs≠[]->lenOf (De p bs)<=1000->Gn (De p bs)≠0->E6 (De p bs) (bs.drop (nn p bs)) Ea q t->E6 p bs Ea q t
def Nz:∀N(p W:hQ),iR W<=N->Pl p->∃F q t,E6 p W F q t
 |N,p,[],_,_=>⟨_,_,_,.done p⟩
 |0,p,_::_,h,_=>Agf
 |N+1,p,c::W,h,Q=>by
  have D:c::W≠[]:=Ad;have e:=Adk Q D;have y:((c::W).drop (nn p (c::W))).length<=N:=by rw[cU];omega
  by_cases K:1000<lenOf (De p (c::W))
  ·exact⟨_,_,_,.long D K⟩
  ·by_cases L:Gn (De p (c::W))=0
   ·have ⟨F,q,t,C⟩:=Nz N [] _ y I9;exact⟨_,_,_,.body D Aa L C⟩
   ·have ⟨F,q,t,C⟩:=Nz N _ _ y (Mk Q Aa L);exact⟨_,_,_,.more D Aa L C⟩
def E6.ok{p}{F:gY}{q}(h:E6 p W F q t)(Q:Pl p):Pl q:=by
 induction h with
 |done p=>exact Q
 |long _ _=>exact I9
 |body _ _ _ _ O=>exact O I9
 |more _ C J _ O=>exact O (Mk Q C J)
def Code.one:oe->oe|.seq x _=>x|c=>c
def Code.two:oe->oe|.seq _ x=>x|c=>c
def Code.core:oe->oe|.block _ x=>x|.loop x=>x|c=>c
def Code.yes:oe->oe|.cond _ x _=>x|c=>c
def Code.opsOf:oe->Array km|.region _ ops _=>ops|_=>#[]
def I8:oe:=match f64.body with|some c=>c|none=>.skip
def Jp:oe:=Code.core (Code.core I8)
def Akh:oe:=Code.one Jp
def Iq:oe:=Code.core (Code.two Jp)
def Agv:oe:=Code.one Iq
def Agw:oe:=Code.one (Code.two Iq)
def Agx:oe:=Code.one (Code.two (Code.two Iq))
def Agy:oe:=Code.one (Code.two (Code.two (Code.two Iq)))
def XD:oe:=Code.two (Code.two (Code.two (Code.two Iq)))
def Agz:oe:=Code.one XD
def LL:oe:=Code.yes (Code.two XD)
def Ag0:oe:=Code.one LL
def Ag1:oe:=Code.two LL
def Yo:oe:=.cond (.tmp 40) (.seq Ag0 Ag1) .skip
def Qb:oe:=.seq Akh (.block 1 (.seq Agv (.seq Agw (.seq Agx (.seq Agy (.seq Agz Yo))))))
def Aki:I8=.block 0 (.loop Qb):=iP
def YR:Array km:=Code.opsOf Ag0
def Dp(c b ch n:w8)(u:iD):Act:=
 {tmps:=#[c,b,ch,uw,uw,uw,n,u 7,u 8,u 9,u 10,u 11,u 12,u 13,u 14,u 15,u 16,u 17,u 18,u 19,u 20,u 21,u 22,u 23,u 24,u 25,u 26,u 27,u 28,u 29,u 30,u 31,u 32,u 33,u 34,u 35,u 36,u 37,u 38,u 39,u 40,u 41,u 42,u 43,u 44,u 45,u 46,u 47,u 48,u 49,u 50,u 51],defers:=[] }
def Kb{c b j n}(a)(h:a=Dp c b j n λi=>a.tmps.getD i uw):∃u,a=Dp c b j n u:=⟨_,h⟩
def QO(x y w):(Builtin.min_ #[3,3] 3 #[iL x,iL y]).events Z w #[]=#[]:=by
 simp[Builtin.min_,Builtin.min2,List.foldlM]
section
variable {J:hZ} {c:hY} {f:Nat} {a:w8} {tl:Bool}
def VW.set(W:VW J c w)(b j x):VW J c (w.setCell (iK b j) x):=by
 refine⟨Ae2 W.rows,W.2,λr Y=>?_,W.4⟩;have ⟨o,C,a⟩:=W.3 r Y;by_cases D:r=b
 ·subst D;have K:=ltOf C;rw[aO K]at C;refine⟨o,?_,a⟩;unfold World.setCell;rw[aO (by simpa using K)];simp only[Array.getElem_modify_self];rw[aA C];cases o<;>first|rfl|cases a
 ·exact⟨o,by rwa[Ef _ _ D],a⟩
def Mz.part(C:Mz J c u d U a tl l){pv'}{l':hQ}(f:u.ownsRow 0 5 1 pv' (iR l') (A5 l'))(b:∀g,pv'.ownBlock=ni g->¬c g)(T:IntsIn u pv'):Mz J c (u.setCell (iK d U) pv') d U pv' tl l':=
 ⟨C.W.set _ _ _,C.inb,C.j0,C.j1,zo _ _ _ C.c0,(kn9 _ _ _ _ Ad).trans C.c1,(zn _ _ _ _).trans C.f0,(zn _ _ _ _).trans C.f1,Di f λg G=>Ef _ _ λe=>b g G (e▸C.inb),b,λg O G h=>T g O G ((Ef (iK d U) pv' (fun(e:g=d)=>b g G (e▸C.inb))).symm.trans h)⟩
def Mz.flag(C:Mz J c u d U a tl l)(t):Mz J c (u.setCell ⟨d,U+1,su⟩ (vp t)) d U a t l:=
 ⟨C.W.set _ _ _,C.inb,C.j0,C.j1,(kn9 _ _ _ _ Ad).trans C.c0,zo _ _ _ C.c1,(zn _ _ _ _).trans C.f0,(zn _ _ _ _).trans C.f1,Di C.own λg G=>Ef _ _ λe=>C.ap g G (e▸C.inb),C.ap,λg O G h=>C.ints g O G ((Ef ⟨d,U+1,su⟩ (vp t) (fun(e:g=d)=>C.ap g G (e▸C.inb))).symm.trans h)⟩
structure Src(c:hY)(u f bv)(bs:hQ):Prop where
 nb:¬c f
 at':∃ba cap,bv=um ba (iR bs) cap/\iR bs<=cap/\(bs≠[]->∃off,ba=ni (iK f off)/\Bytes u f off bs)
def Src.kx{X}(h:Src c u f T W)(K:Ax u O X)(t:¬X f):Src c O f T W:=by
 have ⟨L,I,C,J,a⟩:=h.at';exact⟨h.nb,L,I,C,J,λD=>let⟨off,q,z⟩:=a D;⟨off,q,Uk z K t⟩⟩
def Ai8(L:iE)(y f c j n x):Hj Z k J N 64 Akh (λe l O=>e=(if 0<y then .normal else .exit 0)/\(∃a,l=Dp c (um L y f) j n a)/\O=u) (Dp c (um L y f) j n x) u:=by
 simp only[Akh,Jp,I8,Code.core,Code.one,jnx,Dp];refine Rxn ?_;refine Trb ?_;refine Vj2 ?_;by_cases D:0<y
 ·have S:(0:Int)<(y:Int):=Aa;refine Wv2 ?_;refine Nqc ?_;exact⟨by rw[aJ D],Kb _ iP,Agc⟩
 ·refine A2 (t:=o9) HK ?_;simp only[bQ,aR];refine J4 ?_;simp only[A0];exact⟨by rw[aL D],Kb _ iP,Agc⟩
def Ans(C:Mz J c u d U a tl l)(K:Pl l)(L:iE)(bs:hQ)(f j n x):Hj Z k J N 64 Agv (λb g O=>b=.normal/\(∃i,g=Dp (w9 (ni (iK d U))) (um L (iR bs) f) j (iL (nn l bs)) i)/\Ax u O iO/\Mz J c O d U a tl l) (Dp (w9 (ni (iK d U))) (um L (iR bs) f) j n x) u:=by
 have Y:=K.lt;simp only[Agv,Iq,Jp,I8,Code.core,Code.one,Code.two,jnx,Dp];refine Mwc ?_;refine A3 (MQ C Aa) iP Ac iP Af ?_;rintro y e⟨rfl,h,z⟩;walk_nrm;refine Wad ?_;refine Fh (S:=env Lv) (x:=iL (nn l bs)) iP Ac (B7 Ab) (A4 _ _) (λm=>by go_simp;first|done|(rw[←(Alk (bs:=bs) K)];split<;>omega)) (λm=>by have r:=QO (Gn l) (iR bs) m;go_simp) ?_;walk_nrm;refine Ths ?_;exact⟨Agc,Kb _ iP,h,z⟩
def Mm(l):∀u∈A5 l,u.oneCell'=tu:=λu r=>by
 obtain⟨x,_,rfl⟩:=aZ.1 r
 rfl
def Kj(l):∀x∈A5 l,∀m,A1 m x=x:=λx Z m=>by
 obtain⟨y,_,rfl⟩:=aZ.1 Z;simp
def Yg(w t)(l r:hQ)(X off I m)(e:w.ownsRow 0 5 1 t (iR l) (A5 l))(D:Bytes w X off r)(n:m=iR r)(h:0<m)(hl:iR l+m<=5000):∃g c a,(Builtin.append_ #[37,37] 37 #[t,um (ni (iK X off)) m I]).run qz w=.ok (um (ni (iJ g)) (l++r).length c) a/\a.ownsRow 0 5 1 (um (ni (iJ g)) (l++r).length c) (l++r).length (A5 (l++r))/\Ax w a (λp=>t.ownBlock=ni p)/\(t.ownBlock=ni g∨g=iS w.1)/\(IntsIn w t->IntsIn a (um (ni (iJ g)) (l++r).length c)):=by
 subst n;obtain⟨b,d,v,W,T⟩:=info_parts Tryz.info5;have M:∀j(u:w8),(A5 r)[j]?=ni u->w.cell? (((iK X off):Addr).add j)=ni u:=λj u f=>by
  have P:j<iR r:=by have:=(aD.1 f).1;simpa[A5] using this
  have C:=D j P;simp only[A5,aT,aG P,aI,aW]at f
  rwa[←f,xo]
 have z:(A5 r).length=iR r * b.size:=by rw[W];simp[A5]
 have R:∀k,∀x∈Builtin.zeroCells (Value.int zi 0).cells k,∀m,A1 m x=x:=λk x Z m=>by
  have:x=pq zi 0:=by
   simp[Builtin.zeroCells,Value.cells]at Z
   grind
  rw[this];simp
 obtain⟨g,c,a,Y,J,O,q,h5⟩:=run_append_lies (P:=qz) w 37 37 0 5 b _ 1 1 pgs d v W T iP Ae t (iR l) _ e (iK X off) (iR r) I (A5 r) (by simp[A5]) M (Mm r) h Af2 Aa (bE _) _ iP;have B:IntsIn w t->IntsIn a (um (ni (iJ g)) (l++r).length c):=λV y cc K L=>by
  obtain rfl:g=y:=by simpa[Value.ownBlock] using K
  rcases e.2 with⟨rfl,a1⟩|⟨i,N,H,rfl,a6,G,a7,a8,Q,ab⟩
  ·have s:=run_append_nil (P:=qz) w 37 37 5 b _ pgs d v (iK X off) (iR r) I (A5 r) z M h Aa (by rw[T];omega);rw[Y]at s;injection s with F U;injection F with F _ _;injection F with F;injection F with F _ _;subst U F;rw[show(w.drew.alloc (jf ((A5 r).toArray++Builtin.zeroCells (Value.int zi 0).cells (grownCap w (iR r) 0 5 - iR r)) 5)).1[iS w.1]?=ni (jf ((A5 r).toArray++Builtin.zeroCells (Value.int zi 0).cells (grownCap w (iR r) 0 5 - iR r)) 5) from sx w.drew _]at L;injection L with L;injection L with L _ _;subst L;intro x Z m;rw[cD]at Z;rcases Z with Z|Z
   ·exact Kj r x SR m
   ·exact R _ x Z m
  ·by_cases S:iR l+iR r<=N
   ·have s:=run_append_room (P:=qz) w 37 37 5 b pgs d i (iR l) N H G (iK X off) (iR r) I (A5 r) z M (Mm r) S (by rw[W,Q];simp[A5];omega);rw[Y]at s;injection s with F U;injection F with F _ _;injection F with F;injection F with F _ _;subst U F;rw[setRow_heap w g H _ 5 _ G]at L;injection L with L;injection L with L _ _;subst L;have A:=V g H iP G;intro x Z m;simp only[List.mem_toArray,bX]at Z;rcases Z with(Z|Z)|Z
    ·exact A x (by simpa using gS Z) m
    ·exact Kj r x Z m
    ·exact A x (by simpa using List.mem_of_mem_drop Z) m
   ·have s:=run_append_grow (P:=qz) w 37 37 5 b _ pgs d v (iJ i) (iR l) N (A5 l) (by rw[W];simp[A5]) (e.cells (g:=i) iP) (iK X off) (iR r) I (A5 r) z M Aa Aa (growslice_fits Aa (by rw[T];omega));rw[Y]at s;injection s with F U;injection F with F _ _;injection F with F;injection F with F _ _;subst U F;rw[show(w.drew.alloc (jf ((A5 l).toArray++(A5 r).toArray++Builtin.zeroCells (Value.int zi 0).cells (grownCap w (iR l+iR r) N 5 - (iR l+iR r))) 5)).1[iS w.1]?=ni (jf ((A5 l).toArray++(A5 r).toArray++Builtin.zeroCells (Value.int zi 0).cells (grownCap w (iR l+iR r) N 5 - (iR l+iR r))) 5) from sx w.drew _]at L;injection L with L;injection L with L _ _;subst L;intro x Z m;rw[cD,cD]at Z;rcases Z with(Z|Z)|Z
    ·exact Kj l x SR m
    ·exact Kj r x SR m
    ·exact R _ x Z m
 rw[←I4,←aM]at J;rw[←aM]at Y;exact⟨g,c,a,Y,J,⟨O.os,O.tape,O.output,O.size,λk E Z=>O.block k E (λo=>Z o.symm)⟩,q,B⟩
def Ant(C:Mz J c u d U a tl l)(af:∀G,a.ownBlock=ni G->G≠f)(a8:¬c f)(off y t m r)(hb:Bytes u f off r)(hm:iR r=m)(L:0<m)(hl:iR l+m<=5000)(ah:m<=t)(D x):Hj qz k J N 64 Agw (λo a' O=>o=.normal/\(∃z,a'=Dp (w9 (ni (iK d U))) (um (ni (iK f off)) y t) D (iL m) z)/\Ax u O (λi=>i=d∨a.ownBlock=ni i) /\
   ∃G b,Mz J c O d U (um (ni (iJ G)) (l++r).length b) tl (l++r)/\(a.ownBlock=ni G∨iS u.1<=G)) (Dp (w9 (ni (iK d U))) (um (ni (iK f off)) y t) D (iL m) x) u:=by
 have B:(0:Int)<=(m:Int):=Aa;obtain⟨F,S,rfl⟩:=C.slice;generalize a7:iR l=p at *;have h:∀(w:qg)(g:Nat),True->True:=λ_ _ Z=>Z;have n:∀(M:Act)(w:qg)(g:Nat),((cxv=cxv)/\(∃z,M=Dp (w9 (ni (iK d U))) (um (ni (iK f off)) y t) D (iL m) z)/\Ax u w (λi=>i=d∨(Value.slice F p S).ownBlock=ni i)/\∃G b,Mz J c w d U (um (ni (iJ G)) (l++r).length b) tl (l++r)/\((Value.slice F p S).ownBlock=ni G∨iS u.1<=G)) ->
   ((cxv=cxv)/\(∃z,M=Dp (w9 (ni (iK d U))) (um (ni (iK f off)) y t) D (iL m) z)/\Ax u (w.at g) (λi=>i=d∨(Value.slice F p S).ownBlock=ni i)/\∃G b,Mz J c (w.at g) d U (um (ni (iJ G)) (l++r).length b) tl (l++r)/\((Value.slice F p S).ownBlock=ni G∨iS u.1<=G)):=
  λM w g⟨q1,q2,q3,G,b,q5,q6⟩=>⟨q1,q2,q3.at g,G,b,q5.at g,q6⟩
 simp only[Agw,Iq,Jp,I8,Code.core,Code.one,Code.two,jnx,Dp];refine Em (I:=λ_=>True) Ac λA=>?_;apply A9.tp 0 h n trivial;walk_nrm;apply A9.tp 1 h n trivial;walk_nrm;apply A9.tp 2 h n trivial;walk_nrm;apply A9.tp 3 h n trivial;walk_nrm;apply A9.tp 5 h n trivial;walk_nrm;apply A9.tp 6 h n trivial;walk_nrm;apply A9.take (i:=7) (x:=um (ni (iK f off)) m t) h n iP Ab Ab Ab (JW (S:=env Lv) Ac (B7 (fn:=0) Ab) (A4 _ _) Ale (λw=>by have ai:=λX=>Qe w X (ni (iK f off)) y t m B Aa;go_simp;first|done|rfl)) trivial;walk_nrm;have P:=C.at A;have c1:(u.at A).cell? (iK d U)=ni (um F p S):=P.c0;apply Rb (i:=4) (S:=env Lv) (fn:=0) h n Ab iP Ac (B7 Ab) (A4 _ _) (x:=um F p S) (v':=u.at A) (λg=>p8 (by have Q:=(show sw ((u.at A).at g) _=ni (Value.slice F p S) from c1);walk_nrm;go_simp)) (λg=>by have Q:=(show sw ((u.at A).at g) _=ni (Value.slice F p S) from c1);walk_nrm;intro E H;simp[go_sem,Q]at H;subst H;exact Cl C.j0) trivial;walk_nrm;refine WM (i:=8) (S:=env Lv) (fn:=0) P.W Ab iP Ac (B7 Ab) (A4 _ _) (X:=λi=>(Value.slice F p S).ownBlock=ni i) (R:=λI R=>∃G b,I=um (ni (iJ G)) (l++r).length b/\R.ownsRow 0 5 1 I (l++r).length (A5 (l++r))/\((Value.slice F p S).ownBlock=ni G∨G=iS u.1)/\IntsIn R I) (λi T Z=>?_) (λaa v=>?_) ?_
 ·obtain⟨aj,q,W⟩:=C.W.3 i T;obtain⟨_,⟨Y,_⟩|⟨G,ak,al,Y,_,B,_⟩⟩:=C.own
  ·rw[Y]at Z;cases Z
  ·rw[Y]at Z;obtain rfl:G=i:=by simpa[Value.ownBlock] using Z
   rw[B]at q;obtain rfl:=aA q;cases W
 ·obtain⟨G,b,w',ad,k1,k2,k3,k4⟩:=Yg aa _ l r f off t m (by rw[a7];exact Di (a7▸P.own) λG K=>v.same (C.ap G K)) (λi T=>(Ce (v.same a8)).trans (hb i T)) hm.symm L Aa;refine⟨_,w',p8 ?_,⟨G,b,iP,k1,k3.imp id λZ=>by rw[Z,v.size];rfl,k4 λj cc E Z=>C.ints j cc E ((v.same (C.ap j E)).symm.trans Z)⟩,k2⟩;exact Zz1
 rintro I e R K1 W1 V an⟨G,b,rfl,q,K,ab⟩;refine⟨trivial,?_⟩;have s:¬c G:=by
  rcases K with Z|Z
  ·exact C.ap G Z
  ·exact λhB=>by have:=C.W.lt hB;omega
 have C1:Mz J c e d U (um F p S) tl l∨True:=n9 trivial;have ae:e.ownsRow 0 5 1 (um (ni (iJ G)) (l++r).length b) (l++r).length (A5 (l++r)):=Di q λj o=>by
  obtain rfl:G=j:=by simpa[Value.ownBlock] using o
  exact(V G s).symm
 have X:=K1.block d (C.W.lt C.inb) λZ=>C.ap d Z C.inb;have D1:Mz J c e d U (um F p S) tl l->True:=λ_=>trivial;have a1:e.cell? (iK d U)=ni (um F p S):=(Ce X).trans C.c0;have a6:e.frozen? (iK d U)=o9:=(Nb X).trans C.f0;have C2:Mz J c (e.setCell (iK d U) (um (ni (iJ G)) (l++r).length b)) d U (um (ni (iJ G)) (l++r).length b) tl (l++r):=
  ⟨W1.set _ _ _,C.inb,C.j0,C.j1,zo _ _ _ a1,(kn9 _ _ _ _ Ad).trans ((Ce X).trans C.c1),(zn _ _ _ _).trans a6,(zn _ _ _ _).trans ((Nb X).trans C.f1),Di ae λj o=>by
   obtain rfl:G=j:=by simpa[Value.ownBlock] using o
   exact Ef _ _ λE=>s (E▸C.inb),λj o=>by
   obtain rfl:G=j:=by simpa[Value.ownBlock] using o
   exact s,λj cc o Z=>by
   obtain rfl:G=j:=by simpa[Value.ownBlock] using o
   exact ab G cc iP ((V G s).trans ((Ef (iK d U) (um (ni (iJ G)) (l++r).length b) (fun(E:G=d)=>s (E▸C.inb))).symm.trans Z))⟩
 generalize ao:(l++r).length=nl at *;walk_nrm;apply A9.tp 9 h n trivial;walk_nrm;apply A9.tp 10 h n trivial;walk_nrm;apply Rb (i:=11) (S:=env Lv) (fn:=0) h n Ab iP Ac (B7 Ab) (A4 _ _) (x:=uw) (v':=e.setCell (iK d U) (um (ni (iJ G)) nl b)) (λg=>n9 ⟨by have Q:=(show sw (e.at g) _=_ from a1);have hf:=(show esk (e.at g) _=o9 from a6);walk_nrm;go_simp;first|done|rfl,rfl⟩) (λg=>by walk_nrm;intro E H;simp[go_sem,((show sw (e.at g) _=_ from a1)),((show esk (e.at g) _=o9 from a6)),nk _ _ _ _ (Value.slice _ _ _) uwj iP,dnd]at H;subst H;exact Cl C.j0) trivial;walk_nrm;refine A9.all Ab ⟨iP,Kb _ iP,(K1.ofAt.mono λ_ Z=>n9 Z).trans ((Et e d U _).mono λ_ Z=>p8 Z),G,b,C2,K.imp id λZ=>Aa⟩ _
def Anu(b off y f a)(L:a<=y)(g:y<=f)(c j x):Hj Z k J N 64 Agx (λe l O=>e=.normal/\(∃d,l=Dp c (um (Mb b off a f) (y - a) (f - a)) j (iL a) d)/\O=u) (Dp c (um (ni (iK b off)) y f) j (iL a) x) u:=by
 have h:(y:Int)<=(f:Int):=Aa;simp only[Agx,Iq,Jp,I8,Code.core,Code.one,Code.two,jnx,Dp];refine Qit ?_;apply Fh (S:=env Lv) (x:=um (Mb b off a f) (y - a) (f - a)) iP Ac (B7 Ab) (A4 _ _) Aj4 (λm=>by have r:=λX=>Xp m X (ni (iK b off)) y f a Aa Aa;go_simp;first|done|rfl);walk_nrm;refine Ths ?_;exact⟨Agc,Kb _ iP,Agc⟩
def Anv(C:Mz J c u d U a tl l)(g j n x):Hj Z k J N 64 Agy (λb i O=>if 1000<lenOf l then b=.ret/\i.defers = []/\Ax u O (λp=>p=d)/\Mz J c O d U (um su 0 0) tu []
   else b=.normal/\(∃q,i=Dp (w9 (ni (iK d U))) g j n q)/\Ax u O iO/\Mz J c O d U a tl l) (Dp (w9 (ni (iK d U))) g j n x) u:=by
 simp only[Agy,Iq,Jp,I8,Code.core,Code.one,Code.two,jnx,Dp];refine Rxn ?_;refine V2g ?_;apply A3 (US C) iP Ac iP Af;rintro y e⟨rfl,h,z⟩;walk_nrm;refine Ths ?_;by_cases m:1000<lenOf l
 ·have S:(1000:Int)<(lenOf l:Int):=Aa;simp only[aJ m];refine Wv2 ?_;refine Rxn ?_;refine Ldr ?_;obtain⟨F,t,rfl⟩:=C.slice;have f:=z.part (pv':=um su 0 0) (l':=[]) ⟨by simp[A5],p8 ⟨iP,iP⟩⟩ (λr b=>by cases b) (λr v b=>by cases b);refine Cy (S:=env Lv) iP Ac (B7 Ab) (A4 _ _) (x:=uw) (v':=(e.setCell (iK d U) (um su 0 0))) (λH=>n9 ⟨by have M:=(show sw (World.at e H) _=_ from z.c0);have a1:=(show esk (World.at e H) _=o9 from z.f0);walk_nrm;go_simp;first|done|rfl,rfl⟩) (λH=>by have M:=(show sw (World.at e H) _=_ from z.c0);have a1:=(show esk (World.at e H) _=o9 from z.f0);walk_nrm;intro A E;simp[go_sem,M,a1,nk _ _ _ _ (Value.slice _ _ _) uwj iP,nk _ _ _ _ (Value.bool _) uwj iP,dnd]at E;subst E;exact Cl C.j0) ?_;walk_nrm;have o:=Et e d U (um su 0 0);generalize e.setCell (iK d U) (um su 0 0)=B at f o⊢;refine Wad ?_;have P:=f.flag tu;have W:=Et B d (U+1) (vp tu);refine Cy (S:=env Lv) iP Ac (B7 Ab) (A4 _ _) (x:=uw) (v':=(B.setCell ⟨d,U+1,su⟩ (vp tu))) (λH=>n9 ⟨by have M:=(show sw (World.at B H) _=_ from f.c1);have a1:=(show esk (World.at B H) _=o9 from f.f1);walk_nrm;go_simp;first|done|rfl,rfl⟩) (λH=>by have M:=(show sw (World.at B H) _=_ from f.c1);have a1:=(show esk (World.at B H) _=o9 from f.f1);walk_nrm;intro A E;simp[go_sem,M,a1,nk _ _ _ _ (Value.slice _ _ _) uwj iP,nk _ _ _ _ (Value.bool _) uwj iP,dnd]at E;subst E;exact Cl C.j1) ?_;walk_nrm;generalize B.setCell ⟨d,U+1,su⟩ (vp tu)=w at P W⊢;refine Vj2 ?_;refine Dm ?_;exact⟨iP,iP,((h.mono λ_ s=>s.elim).trans o).trans W,P⟩
 ·simp only[aL m];refine A2 (t:=o9) HK ?_;simp only[bQ,aR];refine Nqc ?_;exact⟨Agc,Kb _ iP,h,z⟩
def Anw(C:Mz J c u d U a tl l)(K:iR l<=5000)(b j n x):Hj qz k J N 64 Agz (λf g O=>f=.normal/\(∃e,g=Dp (w9 (ni (iK d U))) b j n e/\e 40=vp (decide (Gn l=0)))/\Ax u O iO/\Mz J c O d U a tl l) (Dp (w9 (ni (iK d U))) b j n x) u:=by
 simp only[Agz,XD,Iq,Jp,I8,Code.core,Code.one,Code.two,jnx,Dp];refine Mwc ?_;apply A3 (MQ C K) iP Ac iP Af;rintro y Z⟨rfl,H,h⟩;walk_nrm;apply B6 (vp _);walk_nrm;refine Vj2 ?_;exact⟨Agc,⟨λi=>([uw,uw,uw,uw,uw,uw,uw,x 7,x 8,x 9,x 10,x 11,x 12,x 13,x 14,x 15,x 16,x 17,x 18,x 19,x 20,x 21,x 22,x 23,x 24,x 25,x 26,x 27,x 28,x 29,x 30,x 31,x 32,x 33,x 34,x 35,x 36,x 37,w9 _,iL (Gn l),vp (decide (Gn l=0)),x 41,x 42,x 43,x 44,x 45,x 46,x 47,x 48,x 49,x 50,x 51]:iC).getD i uw,iP,iP⟩,H,h⟩
def Anx{g}(C:Mz J c u d U (um (ni (iJ g)) n b) tl l)(F:n<=b)(f j i x):Hj Z k J N 64 Ag1 (λe q O=>e=.normal/\(∃t,q=Dp (w9 (ni (iK d U))) f j i t)/\Ax u O (λv=>v=d)/\Mz J c O d U (um (ni (iJ g)) 0 b) tl []) (Dp (w9 (ni (iK d U))) f j i x) u:=by
 have w:u.ownsRow 0 5 1 (um (ni (iJ g)) 0 b) ([]:hQ).length (A5 []):=by
  obtain⟨G,⟨h,_⟩|⟨R,I,H,h,y,T,K,z,A,s⟩⟩:=C.own
  ·cases h
  ·cases h;exact⟨by simp[A5],n9 ⟨g,b,H,iP,y,T,Ad,z,A,by simp[A5]⟩⟩
 simp only[Ag1,LL,XD,Code.yes,Iq,Jp,I8,Code.core,Code.one,Code.two,jnx,Dp];refine Ay ?_;refine Ldr ?_;apply Bq C.c0 C.j0;walk_nrm;apply Fh (S:=env Lv) (x:=um (ni (iJ g)) 0 b) iP Ac (B7 Ab) (A4 _ _) Aj4 (λm=>by have r:=λX=>Qe m X (ni (iJ g)) n b 0 Aa Aa;go_simp;first|done|rfl);walk_nrm;refine Wad ?_;have o:=C.part (l':=[]) w (λR e=>C.ap R e) (λR D e=>C.ints R D e);have p:=Et u d U (um (ni (iJ g)) 0 b);refine Cy (S:=env Lv) iP Ac (B7 Ab) (A4 _ _) (x:=uw) (v':=(u.setCell (iK d U) (um (ni (iJ g)) 0 b))) (λa=>n9 ⟨by have M:=(show sw (World.at u a) _=_ from C.c0);have a1:=(show esk (World.at u a) _=o9 from C.f0);walk_nrm;go_simp;first|done|rfl,rfl⟩) (λa=>by have M:=(show sw (World.at u a) _=_ from C.c0);have a1:=(show esk (World.at u a) _=o9 from C.f0);walk_nrm;intro L E;simp[go_sem,M,a1,nk _ _ _ _ (Value.slice _ _ _) uwj iP,nk _ _ _ _ (Value.bool _) uwj iP,dnd]at E;subst E;exact Cl C.j0) ?_;walk_nrm;generalize u.setCell (iK d U) (um (ni (iJ g)) 0 b)=B at o p⊢;refine Vj2 ?_;exact⟨Agc,Kb _ iP,p,o⟩
end
def Rv{p}(Q:Pl p)(h:(iR a:Int)<Gn p):Gn (p++a)=Gn p - iR a:=by
 rw[Ih]at h;rw[Ih,Ih];by_cases q:iR p<4
 ·grind
 ·have:lenOf (p++a)=lenOf p:=by
   unfold lenOf
   grind
  simp;omega
def VC{p b}(Q:Pl p)(h:(iR a:Int)<Gn p):nn p (a++b)=iR a+nn (p++a) b:=by
 have L:=Rv Q h;unfold nn
 grind
def AI{p b}(Q:Pl p)(h:(iR a:Int)<Gn p):De p (a++b)=De (p++a) b:=by
 unfold De;rw[VC Q h,List.take_length_add_append,bY]
def XG{p b}(Q:Pl p)(h:(iR a:Int)<Gn p):(a++b).drop (nn p (a++b))=b.drop (nn (p++a) b):=by
 rw[VC Q h,List.drop_length_add_append]
def E6.join{p b q}(Q:Pl p)(h:(iR a:Int)<Gn p)(d:a≠[])(K:lenOf (p++a)<=1000)(j:E6 (p++a) b B q t):E6 p (a++b) B q t:=by
 have E:a++b≠[]:=by simp[d]
 have z:=AI (b:=b) Q h;have y:=XG (b:=b) Q h;cases j with
 |done=>
  have S:De (p++a) []=p++a:=by simp[De]
  rw[S]at z;refine .more E (by rwa[z]) (by rw[z,Rv Q h];omega) ?_;rw[z,y];simp only[List.drop_nil];exact .done _
 |long D c=>exact .long E (by rwa[z])
 |body D c L j=>rw[←z];exact .body E (by rwa[z]) (by rwa[z]) (by rwa[y])
 |more D c L j=>exact .more E (by rwa[z]) (by rwa[z]) Ai
def U8{p}(Q:Pl p)(h:¬(iR a:Int)<Gn p)(b):nn p (a++b)=nn p a/\nn p a<=iR a:=by
 refine⟨?_,MV p a⟩;unfold nn
 grind
theorem E6.append{p a b:List UInt8}{i:List (List UInt8)}{r:List UInt8}{P:Bool}(C:E6 p a i r P):Pl p→P=false→∀{I:List (List UInt8)} {q:List UInt8} {t:Bool},E6 r b I q t→E6 p (a++b) (i++I) q t:=by
 induction C with
 | done p=>grind
 | long D c=>intro _ e;cases e
 | @body p a i r P D c L j O=>
  intro Q e I q t J
  have d:¬(a.length:Int)<Gn p:=fun h=>by
   have g:nn p a=a.length:=by unfold nn;rw [if_pos h]
   have:De p a=p++a:=by unfold De;rw [g,List.take_length]
   rw [this,Rv Q h] at L
   omega
  obtain⟨S,k⟩:=U8 Q d b
  have en:De p (a++b)=De p a:=by unfold De;grind
  have y:(a++b).drop (nn p (a++b))=a.drop (nn p a)++b:=by grind
  rw [List.cons_append,←en]
  refine .body (by simp [D]) (by rwa [en]) (by rwa [en]) ?_
  rw [y]
  exact O I9 e J
 | @more p a i r P D c L j O=>
  intro Q e I q t J
  by_cases h:(a.length:Int)<Gn p
  ·have g:nn p a=a.length:=by unfold nn;rw [if_pos h]
   have en:De p a=p++a:=by unfold De;rw [g,List.take_length]
   have:=O (Mk Q c L) e J
   rw [g,List.drop_length,List.nil_append,en] at this
   exact E6.join Q h D (by rwa [←en]) this
  ·obtain⟨S,k⟩:=U8 Q h b
   have en:De p (a++b)=De p a:=by unfold De;rw [S,List.take_append_of_le_length k]
   have y:(a++b).drop (nn p (a++b))=a.drop (nn p a)++b:=by rw [S,List.drop_append_of_le_length k]
   refine .more (by simp [D]) (by rwa [en]) (by rwa [en]) ?_
   rw [en,y]
   exact O (Mk Q c L) e J
def E6.one{p q}(h:E6 p W B q t):∀{G:gY} {K} {S},E6 p W G K S->G=B/\K=q/\S=t:=by
 induction h with
 |done p=>
  intro G K S P;cases P with
  |done=>exact⟨iP,iP,iP⟩
  |long D _=>exact absurd iP D
  |body D _ _ _=>exact absurd iP D
  |more D _ _ _=>exact absurd iP D
 |long D c=>
  intro G K S P;cases P with
  |done=>exact absurd iP D
  |long _ _=>exact⟨iP,iP,iP⟩
  |body _ C _ _=>omega
  |more _ C _ _=>omega
 |body D c L j O=>
  intro G K S P;cases P with
  |done=>exact absurd iP D
  |long _ C=>omega
  |body _ _ _ J=>
   grind
  |more _ _ C _=>exact absurd L C
 |more D c L j O=>
  intro G K S P;cases P with
  |done=>exact absurd iP D
  |long _ C=>omega
  |body _ _ C _=>exact absurd C L
  |more _ _ _ J=>exact O J
def MG{x}(q:iR H=4)(r:uns H=n):lenOf (H++x)=n:=by
 unfold lenOf
 grind
def EP{x}(q:iR H=4)(r:uns H=n):Gn (H++x)=(n:Int) - iR x:=by
 unfold Gn
 grind
def Zl{H body:hQ}{q}(b:iR H=4)(r:uns H=iR body)(F:0<iR body)(C:iR body<=1000)(j:E6 [] a B q t):E6 [] (H++(body++a)) (body::B) q t:=by
 have z:Gn []=4:=Ae;have l:nn [] (H++(body++a))=4:=by
  unfold nn
  grind
 have N:De [] (H++(body++a))=H:=by
  unfold De
  grind
 have x:(H++(body++a)).drop (nn [] (H++(body++a)))=body++a:=by
  grind
 have c:lenOf H=iR body:=by have:=MG (x:=[]) b r;simpa using this
 have d:Gn H=iR body:=by have:=EP (x:=[]) b r;simpa using this
 have J:nn H (body++a)=iR body:=by
  unfold nn
  grind
 have m:De H (body++a)=H++body:=by
  unfold De;rw[J,cV (aB _),fJ]
 have Z:(body++a).drop (nn H (body++a))=a:=by rw[J];simp
 refine .more (by intro e;simp at e;rw[e.1]at b;simp at b) (by rwa[N,c]) (by rw[N,d];omega) ?_;rw[N,x];have D:E6 H (body++a) ((De H (body++a)).drop 4::B) q t:=.body (by intro e;simp at e;rw[e.1]at F;simp at F) (by rwa[m,MG b r]) (by rw[m,EP b r];omega) (by rwa[Z])
 grind
def QI:E6 [] [0,0,0,4,0,0,0,1] [[0,0,0,1]] [] o9:=Zl (H:=[0,0,0,4]) (body:=[0,0,0,1]) iP Ae Ae Ae (.done [])
section
variable {J:hZ} {f:Nat} {a:w8} {tl:Bool} {b:zq} {j:List Item}
structure Wk(J Bs e)(pg:iF)(d U f)(S:hY)(u a tl l):Prop where
 C:Mz J Bs u d U a tl l
 K:Ax e u (λi=>i=d∨pg=ni i)
 P:∀g,a.ownBlock=ni g->(pg=ni g∨iS e.1<=g)/\g≠f/\¬S g
 hS:∀j,S j->j<iS u.1
 hB:¬Bs f
def Wk.step(j:Wk J Bs e pg d U f S u a tl l){c g h}(K:Ax u O (λk=>k=d∨a.ownBlock=ni k))(C:Mz J Bs O d U c g h)(G:∀i,c.ownBlock=ni i->a.ownBlock=ni i∨(iS u.1<=i/\i≠f)):Wk J Bs e pg d U f S O c g h:=by
 refine⟨C,⟨K.os.trans j.K.os,K.tape.trans j.K.tape,K.output.trans j.K.output,aF j.K.size K.size,λk V Z=>?_⟩,λi m=>?_,λn b=>aC (j.4 n b) K.size,j.5⟩
 ·refine(K.block k (aC V j.K.size) λq=>?_).trans (j.K.block k V Z);rcases q with q|q
  ·exact Z (p8 q)
  ·rcases(j.P k q).1 with r|r
   ·exact Z (n9 r)
   ·omega
 ·rcases G i m with q|⟨F,z⟩
  ·exact j.P i q
  ·exact⟨n9 (aF j.K.size F),z,λs=>by have:=j.4 i s;omega⟩
def Wk.kx(h:Wk J Bs e pg d U f S u a tl l)(K:Ax u O iO)(C:Mz J Bs O d U a tl l):=
 h.step (K.mono λ_ h=>h.elim) C λg b=>p8 b
abbrev Jq(d U:Nat):w8:=w9 (ni (iK d U))
def Aff{I}(D:Bytes u f off bs)(M:iR bs<=I)(m)(L:m<=iR bs)(F:0<m)(k:¬Bs f):Src Bs u f (um (Mb f off m I) (iR bs - m) (I - m)) (bs.drop m):=by
 refine⟨k,_,_,by rw[cU],by rw[cU];omega,λa=>⟨off+m,?_,λi V=>?_⟩⟩
 ·unfold Mb
  grind
 ·rw[cU]at V;have:=D (m+i) Aa
  grind
def SV(h:Wk J Bs e pg d U f S u a tl l)(K:Pl l)(A:iE)(I)(s:Src Bs u f (um A (iR bs) I) bs)(L:bs≠[])(g o F)(D:b.fn=64)(E:b.kind=.normal)(a6:1000<lenOf (De l bs)->∀H O p,H.defers = []->Wk J Bs e pg d U f S O (um su 0 0) tu []->EV qz k J N (G { b.at H p with mode:=.returning } z) O)(a7:lenOf (De l bs)<=1000->∀P O i m T,Wk J Bs e pg d U f S O (um (ni (iJ i)) (De l bs).length m) tl (De l bs)->Src Bs O f T (bs.drop (nn l bs))->P 40=vp (decide (Gn (De l bs)=0)) ->
   EV qz k J N (G (b.at (Dp (Jq d U) T g (iL (nn l bs)) P) (.code Yo::.inBlock 1::j)) z) O):EV qz k J N (G (b.at (Dp (Jq d U) (um A (iR bs) I) g o F) (.code Qb::j)) z) u:=by
 obtain⟨_,_,e0,C,aa⟩:=s.at';cases e0;obtain⟨off,rfl,Q⟩:=aa L;have R:0<iR bs:=eV.2 L;have W:=Adk K L;have n:=MV l bs;have al:=Oa (p:=l) (bs:=bs);have an:=AH (bs:=bs) K;have ao:=LD Q R;refine EV.seqC (Ai8 (ni (iK f off)) (iR bs) I (Jq d U) g o F b (.code (.block 1 (.seq Agv (.seq Agw (.seq Agx (.seq Agy (.seq Agz Yo))))))::j) z D E ?_);rintro c aq u1⟨rfl,⟨x1,rfl⟩,rfl⟩;rw[aJ R];refine EV.blockC (EV.seqC ?_);apply Ans h.C K (ni (iK f off)) bs I g o x1 b _ z D E;rintro c a2 B⟨rfl,⟨a8,rfl⟩,r,M⟩;have v:=h.kx r M;have X:=Uk Q r λh=>h;apply EV.seqC;have ab:Bytes B f off (bs.take (nn l bs)):=λad V=>by
  rw[List.getElem_take];exact X ad (by rw[eG]at V;omega)
 apply Ant M (λi c=>(v.P i c).2.1) h.5 off (iR bs) I (nn l bs) (bs.take (nn l bs)) ab Aj W Aa Aa g a8 b _ z D E;rintro c a3 Y⟨rfl,⟨x3,rfl⟩,Z,i,m,ae,af⟩;have w:Wk J Bs e pg d U f S Y (um (ni (iJ i)) (De l bs).length m) tl (De l bs):=v.step Z ae λg' c=>by
  obtain rfl:i=g':=by simpa[Value.ownBlock] using c
  rcases af with q|q
  ·exact p8 q
  ·exact n9 ⟨q,by have:=r.size;omega⟩
 have ah:Bytes Y f off bs:=Uk X Z λq=>by
  rcases q with q|q
  ·exact h.5 (q▸M.inb)
  ·exact(v.P _ q).2.1 iP
 apply EV.seqC;apply Anu f off (iR bs) I (nn l bs) n C (Jq d U) g x3 b _ z D E;rintro c a4 u4⟨rfl,⟨x4,rfl⟩,rfl⟩;refine EV.seqC (Anv w.C _ g _ x4 b _ z D E ?_);intro c ai u5 q;by_cases y:1000<lenOf (De l bs)
 ·rw[aJ y]at q;obtain⟨rfl,hd,t,x⟩:=q;exact λp=>a6 y ai u5 p hd (w.step (t.mono λ_ h=>p8 h) x λi c=>by cases c)
 ·rw[aL y]at q;obtain⟨rfl,⟨x5,rfl⟩,t,x⟩:=q;apply EV.seqC;apply Anw x Aa _ g _ x5 b _ z D E;rintro c ar u6⟨rfl,⟨x6,rfl,aj⟩,a1,ak⟩;exact a7 Aa x6 u6 i m _ ((w.kx t x).kx a1 ak) (((Aff (Bs:=Bs) ah C (nn l bs) n W h.5).kx t λh=>h).kx a1 λh=>h) aj
def Y7(b:zq)(j:List Item)(z:List zq)(d U:Nat)(bv ch m:w8)(x:iD):o5:=
 G (b.at (Dp (Jq d U) bv ch m x) (.inRegion YR [3]::.code Ag1::.inBlock 1::.inLoop Qb::.inBlock 0::j)) z
def Ao6(C:Mz J Bs u d U a tl l)(q:4<=iR l)(K:iR l<=5000)(T c m x)(f:x 40=vp tu)(n:b.fn=64)(E:b.kind=.normal)(g:∀e O,O.1[iS u.1]?=ni (jf (A5 (l.drop 4)).toArray 5)->Ax u O iO->Mz J Bs O d U a tl l->e 41=c->e 43=um (ni (iJ u.1.size)) (iR l - 4) (iR l - 4)->∀h,N (Y7 b j z d U T c m e) (O.at h)):EV qz k J N (G (b.at (Dp (Jq d U) T c m x) (.code Yo::.inBlock 1::.inLoop Qb::.inBlock 0::j)) z) u:=by
 refine EV.condC f ?_;refine EV.seqC (EV.regionC ?_);simp only[YR,Ag0,LL,XD,Iq,Jp,I8,Code.core,Code.one,Code.two,Code.yes,Code.opsOf,jnx,Dp];apply EV.opPure (fn:=64) E iP Ac (B7 Ab) (A4 _ _) (λw=>Ac) (λw=>Ac);walk_nrm;apply EV.opPure (fn:=64) E iP Ac (B7 Ab) (A4 _ _) (λw=>Ac) (λw=>Ac);walk_nrm;apply EV.opCall E (Ann C q K) iP Ac iP Af (by simp[Eg]);rintro y Z⟨rfl,Y,H,P⟩;walk_nrm;exact EV.stop (g (λi=>([uw,uw,uw,uw,uw,uw,uw,x 7,x 8,x 9,x 10,x 11,x 12,x 13,x 14,x 15,x 16,x 17,x 18,x 19,x 20,x 21,x 22,x 23,x 24,x 25,x 26,x 27,x 28,x 29,x 30,x 31,x 32,x 33,x 34,x 35,x 36,x 37,x 38,x 39,x 40,c,Jq d U,um (ni (iJ u.1.size)) (iR l - 4) (iR l - 4),x 44,x 45,x 46,x 47,x 48,x 49,x 50,x 51]:iC).getD i uw) Z Y H P iP iP)
def Anz{q}{F:gY}(c)(l:b.fn=64)(E:b.kind=.normal)(Z:∀g O v w T ad o body a1 a6,F=body::a1->E6 [] a6 a1 q t->4<=iR w->w.drop 4=body->iR w<=1004->Wk J Bs e pg d U f S O v o9 w->(∃i H,v=um (ni (iJ i)) (iR w) H)->(∀i,v.ownBlock=ni i->i≠o)->Src Bs O f T a6->O.1[o]?=ni (jf (A5 body).toArray 5)->iS e.1<=o->¬S o->¬Bs o->g 41=c->g 43=um (ni (iJ o)) (iR body) (iR body)->∀P,N (Y7 b j z d U T c ad g) (O.at P))(a7:F = []->t=o9->∀m O v,m.defers = []->Wk J Bs e pg d U f S O v o9 q->EV qz k J N (G (b.at m j) z) O)(a8:F = []->t=tu->q = []->∀m O W,m.defers = []->Wk J Bs e pg d U f S O (um su 0 0) tu []->EV qz k J N (G { b.at m W with mode:=.returning } z) O):∀{p bs},E6 p bs F q t->Pl p->∀u(r T a:w8)x,Wk J Bs e pg d U f S u r o9 p->Src Bs u f T bs ->
   EV qz k J N (G (b.at (Dp (Jq d U) T c a x) (.code Qb::.inLoop Qb::.inBlock 0::j)) z) u:=by
 intro p bs K
 induction K with
 |done p=>
  intro Q u r T a x h s;obtain⟨L,I,rfl,C,_⟩:=s.at';refine EV.seqC (EV.piece l E (Ai8 L _ I (Jq d U) c a x) ?_);rintro aa ak al⟨rfl,⟨x1,rfl⟩,rfl⟩;simp only[aX,Nat.lt_irrefl,bQ];exact⟨j,iP,a7 iP iP _ _ r iP h⟩
 |long D X=>
  intro Q u r T a x h s;obtain⟨L,I,rfl,C,_⟩:=s.at';exact SV h Q L I s D c a x l E (λ_ m O W ae R=>a8 iP iP iP m O W ae R) (λan=>Aa)
 |@body p bs F q t D X y K ab=>
  intro Q u r T a x h s;obtain⟨L,I,rfl,C,_⟩:=s.at';refine SV h Q L I s D c a x l E (λaf=>Aa) λ_ g O i H V R Y M=>?_;rw[y]at M;have h4:=GB y;have ah:=AH (bs:=bs) Q;refine Ao6 R.C h4 Aa V c _ g M l E λai B hr K2 aj n A P=>?_;refine Z ai B _ (De p bs) V _ O.1.size _ _ _ iP K h4 iP ah (R.kx K2 aj) ⟨i,H,iP⟩ (λg' aa=>?_) (Y.kx K2 λh=>h) hr R.K.size (λh=>by have:=R.4 _ h;omega) (λh=>by have:=R.C.W.lt h;omega) n (by rw[A,cU]) P;have:=Cm R.C.own aa;omega
 |@more p bs F q t D X y K ab=>
  intro Q u r T a x h s;obtain⟨L,I,rfl,C,_⟩:=s.at';refine SV h Q L I s D c a x l E (λaf=>Aa) λ_ g O i H V R Y M=>?_;refine EV.condC (t:=o9) (M.trans (by rw[decide_eq_false y])) ?_;simp only[bQ,aR];refine EV.skipC (EV.inBlockC (EV.inLoopC ?_));exact ab Z a7 a8 (Mk Q X y) O _ V _ g R Y
end
section
variable {J:hZ} {num a:Int} {t:w8}
structure Gm(h:Nat->w8×w8)(J:hZ)(Bs:hY)(u:qg)(sb num a en t)(m:hQ):Prop where
 inb:Bs sb
 j:∀k,k≠1->k≠2->¬J (.cell (iK sb k))
 row:∃c,u.1[sb]?=ni (jf c 84)/\c.size=6/\c[0]?=ni (iL num)/\c[3]?=ni (iL a)/\c[4]?=ni (vp en)/\c[5]?=ni t
 own:u.ownsRow 0 5 1 t (iR m) (A5 m)
 ap:∀g,t.ownBlock=ni g->¬Bs g
 tl:∀c,u.1[sb]?=ni (jf c 84)->c[1]?=ni (h sb).1/\c[2]?=ni (h sb).2
def Gm.cell(S:Gm h J Bs u sb num a en t m):u.cell? (iJ sb)=ni (iL num)/\u.cell? (iK sb 3)=ni (iL a)/\u.cell? (iK sb 4)=ni (vp en)/\u.cell? (iK sb 5)=ni t:=by
 have ⟨c,b,_,F,T,q,z⟩:=S.row;exact⟨cellOf b F,cellOf b T,cellOf b q,cellOf b z⟩
def Gm.fz(S:Gm h J Bs u sb num a en t m)(k):u.frozen? (iK sb k)=o9:=by
 have ⟨c,b,_⟩:=S.row;exact Dr b
def Gm.lt(S:Gm h J Bs u sb num a en t m):sb<iS u.1:=by
 have ⟨c,b,_⟩:=S.row;exact ltOf b
def Gm.kx(S:Gm h J Bs u sb num a en t m)(K:Ax u O X)(C:¬X sb)(c:∀g,t.ownBlock=ni g->¬X g):Gm h J Bs O sb num a en t m:=by
 have ⟨d,b,Y⟩:=S.row;exact⟨S.inb,S.j,⟨d,(K.block sb (ltOf b) C).trans b,Y⟩,Di S.own λg G=>K.block g (Cm S.own G) (c g G),S.ap,λx Z=>S.tl x ((K.block sb (ltOf b) C).symm.trans Z)⟩
def Gm.at(S:Gm h J Bs u sb num a en t m)(d):Gm h J Bs (u.at d) sb num a en t m:=⟨S.inb,S.j,S.row,S.own,S.ap,S.tl⟩
def Gm.slice(S:Gm h J Bs u sb num a en t m):∃b c,t=um b (iR m) c:=by
 rcases S.own with⟨_,⟨rfl,d⟩|⟨g,I,H,rfl,_⟩⟩
 ·grind
 ·exact⟨_,_,iP⟩
def BJ(w t y)(l r:hQ)(e:w.ownsRow 0 5 1 t (iR l) (A5 l))(i:w.ownsRow 0 5 1 y (iR r) (A5 r))(h:0<iR r)(K:iR l+iR r<=100000000000):∃g c a,(Builtin.append_ #[37,37] 37 #[t,y]).run qz w=.ok (um (ni (iJ g)) (l++r).length c) a/\a.ownsRow 0 5 1 (um (ni (iJ g)) (l++r).length c) (l++r).length (A5 (l++r))/\Ax w a (λm=>t.ownBlock=ni m)/\(t.ownBlock=ni g∨g=iS w.1):=by
 obtain⟨b,d,v,W,T⟩:=info_parts Tryz.info5;obtain⟨X,I,rfl,C,D⟩:=Wt i h;have M:∀j(u:w8),(A5 r)[j]?=ni u->w.cell? (((iJ X):Addr).add j)=ni u:=λj u f=>by
  have n:j<iR r:=by have:=(aD.1 f).1;simpa[A5] using this
  have p:=D j n;simp only[A5,aT,aG n,aI,aW]at f
  rwa[←f,xo]
 obtain⟨g,c,a,Y,J,O,q,z⟩:=run_append_lies (P:=qz) w 37 37 0 5 b _ 1 1 pgs d v W T iP Ae t (iR l) _ e (iJ X) (iR r) I (A5 r) (by simp[A5]) M (Mm r) h Af2 Aa (bE _) _ iP;rw[←I4,←aM]at J;rw[←aM]at Y;exact⟨g,c,a,Y,J,⟨O.os,O.tape,O.output,O.size,λk E Z=>O.block k E (λo=>Z o.symm)⟩,q⟩
structure Told(h:Nat->w8×w8)(J Bs u O sb num a en)(t:w8)(m l):Prop where
 K:Ax u O (λi=>i=sb∨t.ownBlock=ni i)
 W:VW J Bs O
 S:∃ov',Gm h J Bs O sb num a en ov' (m++l)/\∀g,ov'.ownBlock=ni g->t.ownBlock=ni g∨iS u.1<=g
 own1:∀k c c',u.1[sb]?=ni (jf c 84)->O.1[sb]?=ni (jf c' 84)->k≠5->c'[k]?=c[k]?
def OU(g:VW J Bs u)(S:Gm h J Bs u sb num a en t m)(y)(l:hQ)(L:0<iR l)(hl:iR m+iR l<=100000000000)(hf:u.ownsRow 0 5 1 y (iR l) (A5 l))(a6:∀G,y.ownBlock=ni G->¬Bs G):Bg qz tu J N 70 #[iI sb,y] u λx O=>x=my #[]/\Told h J Bs u O sb num a en t m l:=by
 obtain⟨C,U,rfl⟩:=S.slice;have w:=S.j 5 Ae Ae;generalize p:iR m=k at *;apply Bh func70 Ac iP (R:=λ_=>my #[]) (λ_ _=>pqk Ac _ _ _) (λ_ _=>kmq Ac _ _);simp only[ntmps70,na,Nat.reduceAdd,Nat.reduceSub];refine Ay ?_;refine Ldr ?_;apply Bq S.cell.2.2.2 w;walk_nrm;refine V2g ?_;refine Dy (i:=6) (S:=env Lv) g iP Ac (B7 Ab) (A4 _ _) (X:=λi=>(Value.slice C k U).ownBlock=ni i) (R:=λx L'=>∃G b,x=um (ni (iJ G)) (m++l).length b/\L'.ownsRow 0 5 1 x (m++l).length (A5 (m++l))/\((Value.slice C k U).ownBlock=ni G∨G=iS u.1)) (λI ad Z=>?_) (λa7 v=>?_) ?_
 ·obtain⟨ab,q,W⟩:=g.3 I ad;obtain⟨_,⟨T,_⟩|⟨G,ae,af,T,_,B,_⟩⟩:=S.own
  ·rw[T]at Z;cases Z
  ·rw[T]at Z;obtain rfl:G=I:=by simpa[Value.ownBlock] using Z
   rw[B]at q;obtain rfl:=aA q;cases W
 ·obtain⟨G,b,w',ad,k1,k2,k3⟩:=BJ a7 (um C k U) y m l (by rw[p];exact Di (p▸S.own) λG c=>v.same (S.ap G c)) (Di hf λG c=>v.same (a6 G c)) L Aa;refine⟨_,w',p8 ?_,⟨G,b,iP,k1,k3.imp id λZ=>by rw[Z,v.size]⟩,k2⟩;exact Zz1
 rintro x e L1 r W1 V ah⟨G,b,rfl,q,c⟩;have s:¬Bs G:=by
  rcases c with Z|Z
  ·exact S.ap G Z
  ·exact λhB=>by have:=g.lt hB;omega
 have z:e.ownsRow 0 5 1 (um (ni (iJ G)) (m++l).length b) (m++l).length (A5 (m++l)):=Di q λj o=>by
  obtain rfl:G=j:=by simpa[Value.ownBlock] using o
  exact(V G s).symm
 obtain⟨cs,f,a8,ai,R,aj,F⟩:=S.row;have d:e.1[sb]?=ni (jf cs 84):=(r.block sb (ltOf f) λZ=>S.ap sb Z S.inb).trans f;walk_nrm;refine Wad ?_;generalize n:(m++l).length=X at *;apply Cy (S:=env Lv) iP Ac (B7 Ab) (A4 _ _) (x:=uw) (v':=(e.setCell (iK sb 5) (um (ni (iJ G)) X b))) (λH=>n9 ⟨by have M:=(show sw (World.at e H) _=_ from(cellOf (j:=5) d F));have a1:=(show esk (World.at e H) _=o9 from(Dr (j:=5) d));walk_nrm;go_simp;first|done|rfl,rfl⟩) (λH=>by have M:=(show sw (World.at e H) _=_ from(cellOf (j:=5) d F));have a1:=(show esk (World.at e H) _=o9 from(Dr (j:=5) d));walk_nrm;intro av E;simp[go_sem,M,a1,nk _ _ _ _ (Value.slice _ _ _) uwj iP,nk _ _ _ _ (Value.bool _) uwj iP,dnd]at E;subst E;exact Cl w);walk_nrm;have D:(e.setCell (iK sb 5) (um (ni (iJ G)) X b)).1[sb]?=ni (jf (cs.setIfInBounds 5 (um (ni (iJ G)) X b)) 84):=by rw[heap_setCell,aJ iP,d];rfl
 have A:=Et e sb 5 (um (ni (iJ G)) X b);have K:=W1.set sb 5 (um (ni (iJ G)) X b);generalize e.setCell (iK sb 5) (um (ni (iJ G)) X b)=u2 at D A K⊢;refine Au ⟨p8 iP,iP,trivial,(r.mono λ_ Z=>n9 Z).trans (A.mono λ_ Z=>p8 Z),K,⟨um (ni (iJ G)) X b,⟨S.inb,S.j,⟨_,D,by simp[a8],?_,?_,?_,?_⟩,?_,λj o=>?_,?_⟩,λj o=>?_⟩,λak al a' P Q hk=>?_⟩
 ·rwa[aE Ae]
 ·rwa[aE Ae]
 ·rwa[aE Ae]
 ·rw[aQ Aa]
 ·rw[n];refine Di z λj o=>?_;obtain rfl:G=j:=by simpa[Value.ownBlock] using o
  exact A.block G (Cm z iP) λaa=>s (aa▸S.inb)
 ·obtain rfl:G=j:=by simpa[Value.ownBlock] using o
  exact s
 ·intro x Y;rw[D]at Y;cases Y;rw[aE Ae,aE Ae];exact S.tl cs f
 ·obtain rfl:G=j:=by simpa[Value.ownBlock] using o
  exact c.imp id λZ=>Aa
 ·rw[f]at P;rw[D]at Q;cases P;cases Q;exact aE (dN hk)
end
@[reducible] noncomputable def KI(L:Mv)(ChL WgL ChB WgB NA N0:Nat)(fA fB:Nat->Nat)(w0:qg)(low:Nat)(JA JB:hZ)(FinA:o5->qg->Prop)(FinB:(Nat->Prop)->o5->qg->Prop):Mw:=
 {L,P:=Z,ty:=128,ChL,WgL,ChB,WgB,NA,N0,fA,fB,w0,low,JA,JB,msgT:=5,msgV:=λi m=>um (ni (iJ i)) m.size m.size,FinA,FinB }
def bot:zq:={ (default:zq) with fn:=prog.funcs.size,defers:=[],mode:=.panicking [ch0] }
def GR:oe:=f62.body.getD .skip
def Adw:Array km:=match GR with|.seq _ (.seq _ (.region _ ops _))=>ops|_=>#[]
def KQ(T:iB)(Wg Ch:Nat):Act:=⟨T,[Oo 118 0 Ch,dcall 63 #[iI Wg]]⟩
def QT(T:iB)(Wg Ch:Nat):zq:=(baseD 62).at (KQ T Wg Ch) [.inRegion Adw [3]]
def FU(T:iB)(Wg Ch:Nat):o5:=G { (baseD 62).at (KQ T Wg Ch) [] with mode:=.returning } [bot]
def VN(n):Bm n bot=bot:=by
 have S:(default:zq).tmps=#[]:=iP;have L:(default:zq).todo = []:=iP;have Y:(default:zq).7=su:=iP;simp[Bm,bot,J5,ch0,Eu,S,L,Y]
def FH(n T q N):Bw n (KQ T q N)=KQ (T.map (A1 n)) (sh n q) (sh n N):=by
 simp[Bw,KQ,Oo,dcall,O6, Ei,Wz,Mp]
def Aet(n T q N):Bn n (FU T q N)=FU (T.map (A1 n)) (sh n q) (sh n N):=by
 unfold FU;rw[Ep];simp only[bA,cO,VN];rw[←(FH n T q N)]
 rfl
def rowOf(b:hQ):Array w8:=(A5 b).toArray
def FL(n b):(rowOf b).map (A1 n)=rowOf b:=by
 simp[rowOf,A5]
def BG(b):(rowOf b).size=iR b:=by simp[rowOf,A5]
def AW(n c b j m x):Bw n (Dp c b j m x)=Dp (A1 n c) (A1 n b) (A1 n j) (A1 n m) (λi=>A1 n (x i)):=by
 simp[Bw,Dp,Eu]
set_option maxRecDepth 100000 in
def Akd(c T a x j Ch X)(n:X 41=.chan (ni Ch))(A:X 43=x)(k z w):stepG Z o9 (G ((base 64).at (Dp c T j a X) (.inRegion YR [3]::k)) z) w=.comm (core (G ((base 64).at (Dp c T j a X) (.inRegion YR [3]::k)) z)) #[scase Ch x (my #[])] tu .send w #[]:=by
 simp only[YR,Ag0,LL,XD,Iq,Jp,I8,Code.core,Code.one,Code.two,Code.yes,Code.opsOf,jnx,Dp,n,A];rw[stepG_comm iP Ac Ae (cases:=#[scase Ch x (my #[])]) (blocking:=tu) (shape:=.send) (w':=w) (by simp[execOp,scase,hv6])]
 rfl
section
variable {L:Mv} {p m low:Nat} {x:Nat->Nat} {r:qg} {k Y:hZ} {d:o5->qg->Prop} {f:Nat} {a:w8} {tl:Bool}
def TX(Y:hZ)(Bs:hY)(e:qg)(pg:iF)(sb U f:Nat)(q:hQ)(t:Bool)(S:hY)(v:qg):Prop:=∃a,Wk Y Bs e pg sb U f S v a t q
def TY(Y:hZ)(Bs:hY)(e:qg)(pg:iF)(sb U f j K:Nat)(q:hQ)(t:Bool)(S:hY)(g:o5)(v:qg):Prop:=(∃T,g=FU T j K)/\TX Y Bs e pg sb U f q t S v
def Wk.at(h:Wk Y Bs e pg sb U f S u a tl l)(d):Wk Y Bs e pg sb U f S (u.at d) a tl l:=⟨h.C.at d,h.K.at d,h.P,h.4,h.5⟩
def Zn{q}(d)(h:TX Y Bs e pg sb U f q t S u):TX Y Bs e pg sb U f q t S (u.at d):=let⟨a,h⟩:=h;⟨a,h.at d⟩
def Xw(w i):Ax w (Bb (· = i) w) (· = i):=by
 exact Ock
def Wk.sent(j:Wk Y Bs e pg sb U f S u a tl l){i}{c:iB}{t}(m:u.1[i]?=ni (jf c t))(V:iS e.1<=i)(n:¬Bs i)(H:∀g,a.ownBlock=ni g->g≠i):Wk Y Bs e pg sb U f (λd=>S d∨d=i) (Bb (· = i) u) a tl l:=by
 have K:=Xw u i;have W:=j.C.W.ofK K (λd h b=>n (b▸h)) λr I b=>by
  have ⟨o,O,z⟩:=j.C.W.3 r I;rw[b,m]at O;obtain rfl:=aA O;cases z
 refine⟨j.C.kx K W (λb=>n (b▸j.C.inb)) H,⟨K.os.trans j.K.os,K.tape.trans j.K.tape,K.output.trans j.K.output,aF j.K.size K.size,λk E Z=>(K.block k (aC E j.K.size) λb=>Aa).trans (j.K.block k E Z)⟩,λg b=>⟨(j.P g b).1,(j.P g b).2.1,λq=>q.elim (j.P g b).2.2 (H g b)⟩,λd h=>?_,j.5⟩;rw[Dd];rcases h with h|rfl
 ·exact j.4 d h
 ·exact ltOf m
def Ajj{J}{a:o5->qg->Prop}{b}(T c)(y:b.defers = [])(h:∀B d,a (FU B j K) (u.at d)):EV Z o9 J a (G { (base 64).at b c with mode:=.returning } [QT T j K,bot]) u:=by
 apply EV.leave y func64 iP (λw=>pqk Ac _ _ _) (λw=>kmq Ac _ _);unfold QT;rw[Frame.finish_at,show Adw[3]?=ni (Adw[3]' Ae) from iP];refine EV.regionEnd (EV.endC ?_);exact EV.stop λd=>h _ d
def scB(z)(hN:iS e.1=m)(aq:f<iS e.1){q}:∀(F:gY) S {a W},E6 a W F q t->Pl a->∀u(w T N:w8)y,Wk Y Bs e pg sb U f S u w o9 a->Src Bs u f T W ->
  EV qz o9 Y (ScB (KI L b c K j p m x E r low k Y d (TY Y Bs e pg sb U f j K q t)) (F.map rowOf) S) (G ((base 64).at (Dp (Jq sb U) T (.chan (ni K)) N y) (.code Qb::.inLoop Qb::.inBlock 0::[])) [QT z j K,bot]) u:=by
 intro F
 induction F with
 |nil=>
  intro S a W H Q u w T N y I s;refine Anz (b:=base 64) (.chan (ni K)) iP iP (λ_ _ _ _ _ _ _ _ _ _ g=>by cases g) (λ_ R X O Z M h=>?_) (λ_ R ab X O l M h=>?_) H Q u w T N y I s
  ·subst R;exact EV.endC (Ajj z [] M λB v=>⟨iP,⟨B,iP⟩,Zn v ⟨Z,h⟩⟩)
  ·subst R ab;exact Ajj z l M λB v=>⟨iP,⟨B,iP⟩,Zn v ⟨_,h⟩⟩
 |cons body ar ad=>
  intro S a W H Q u w T N y I s;refine Anz (b:=base 64) (.chan (ni K)) iP iP (λa1 O Z ae V a6 i au av C g af h4 aw ax h ah ai aj a7 hi ak D ay A v=>?_) Am9 Am9 H Q u w T N y I s;obtain⟨rfl,rfl⟩:=List.cons.inj g;obtain⟨az,al,rfl⟩:=ah;refine⟨i,my #[],⟨iP,⟨FL _ _,λn=>FL n _⟩,λn an hG=>?_⟩,⟨by show m<=i;omega,ak⟩,a7,?_⟩
  ·unfold Y7;rw[Ep,Gu,AW];refine Akd (Ch:=sh n K) _ _ _ _ _ _ ?_ ?_ _ _ an
   ·simp_all
   ·show A1 n (a1 43)=_
    show _=Value.slice (ni ⟨sh n i,0,su⟩) (rowOf body).size (rowOf body).size;rw[A,BG];simp[A1,Ei]
  ·show EV qz o9 Y _ (jy (core (Y7 _ _ _ _ _ _ _ _ _)) uw) _;unfold Y7;rw[Xc (o:=YR[3]' Ae) iP];apply EV.regionEnd;have a8:=(h.at v).sent (i:=i) a7 hi D ai;have o:iR ae<=al:=by
    obtain⟨_,⟨g,_⟩|⟨g',b5,b6,g,_,_,hc,_⟩⟩:=h.C.own
    ·cases g
    ·cases g;exact hc
   apply EV.piece (b:=base 64) (fn:=64) iP iP (Anx a8.C o V (.chan (ni K)) a6 a1);rintro g X u2⟨rfl,⟨x2,rfl⟩,J,ao⟩;refine EV.inBlockC (EV.inLoopC ?_);apply ad (λaa=>S aa∨aa=i) af I9 u2 _ V a6 x2 (a8.step (J.mono λ_ P=>p8 P) ao λg' g=>p8 g);refine((aj.kx (Ax.at (Ax.refl O iO) v) λP=>P).kx (Xw _ i) λg=>Aa).kx J λg=>?_;exact h.5 (g▸h.C.inb)
def Ah2(T:iB):QuitsD Z 2 0 (G { (baseD 62).at ⟨T,[]⟩ [] with mode:=.returning } [bot]):=by
 refine QuitsD.ctl (g':=G bot []) iP (λw=>?_) ?_
 ·simp[G,stepG,unwind,doReturn,results,Frame.at,baseD,bot,func62,f62,seen,GStep.after,ch0]
 refine QuitsD.ctl (g':={ G bot [] with status:=.finished }) rfl (λw=>?_) ⟨rfl,rfl⟩;simp[G,stepG,unwind,bot,ch0,Frame.catches]
 rfl
def Aii(D:Mw):Terms D.RW Go.Pair.D0:=⟨rgT,λw=>⟨iP,iP⟩⟩
set_option maxRecDepth 100000 in
def Aq2{a:(Nat->Prop)->o5->qg->Prop}(f:L.Wg≠L.Ch)(T w)(W:E3 128 L.Wg w):WCl (KI L b c K j p m x E r low k Y d a) (FU T L.Wg L.Ch) w:=by
 refine⟨iP,iP,λs e g z=>⟨_,Ua iP Ac z,iP,103+1,?_⟩⟩;have i:E3 128 L.Wg (w.shut L.Ch s e g):=by
  have ⟨l,sm,h⟩:=W;refine⟨l,sm,?_⟩;unfold Eh at h⊢;rw[←h];exact Wy f
 apply Ds (Aii _) iP (λw=>stepG_unwind_enter iP func63 Ac iP);exact An2 (D:=KI L b c K j p m x E r low k Y d a) Tryz.wgLib iP iP (Ah2 T) _ i
end
structure V0(Tabs:iA)(gN)(v:qg):Prop where
 size:gN<=iS v.1
 tabs:Tabs v
 table:Table v
 rq1:v.cell? ⟨0,4,su⟩=ni (x7 ⟨#[40,52,52,116,98,41]⟩)
 rq2:v.cell? ⟨0,7,su⟩=ni (x7 ⟨#[40,52,52,116,52,41]⟩)
 rq3:v.cell? ⟨0,10,su⟩=ni (x7 ⟨#[40,52,52,116,98,52,41]⟩)
 rq5:v.cell? ⟨0,16,su⟩=ni (x7 ⟨#[40,52,52,116,63,41]⟩)
 rq4:v.cell? ⟨0,13,su⟩=ni (x7 ⟨#[40,52,52,116,63,41]⟩)
 rq6:v.cell? ⟨0,19,su⟩=ni (x7 ⟨#[40,52,52,116,63,41]⟩)
 rq7:v.cell? ⟨0,22,su⟩=ni (x7 ⟨#[40,52,52,41]⟩)
 an4:v.cell? ⟨3,4 * 3+1,su⟩=ni (x7 ⟨#[40,52,56,52,98,40,56,56,52,52,41,41]⟩)
 an6:v.cell? ⟨3,6 * 3+1,su⟩=ni (x7 ⟨#[40,52,56,52,91,116,93,41]⟩)
 an7:v.cell? ⟨3,7 * 3+1,su⟩=ni (x7 ⟨#[40,52,56,52,41]⟩)
 an1:v.cell? ⟨3,1 * 3+1,su⟩=ni (x7 ⟨#[40,52,56,52,116,41]⟩)
 an2:v.cell? ⟨3,2 * 3+1,su⟩=ni (x7 ⟨#[40,52,56,52,41]⟩)
 an3:v.cell? ⟨3,3 * 3+1,su⟩=ni (x7 ⟨#[40,52,56,52,40,56,56,52,52,41,41]⟩)
 an5:v.cell? ⟨3,5 * 3+1,su⟩=ni (x7 ⟨#[40,52,56,52,40,56,56,52,52,41,41]⟩)
 ml:∃m,v.cell? ⟨1,0,su⟩=ni (iL m)
def Anb(Tabs:iA)(gN:Nat)(u:qg):Prop:=∀v:qg,(∀i,i<8->v.1[i]?=u.1[i]?)->gN<=iS v.1->V0 Tabs gN v
section
variable {J:hZ} {c:hY} {num a:Int} {t:w8} {z:gZ}
structure Cx(F y J c u):Prop where
 W:VW J c u
 G:Anb F y u
 bs:∀i,c i->8<=i
 sz:y<=iS u.1
 g8:8<=y
def Cx.kx8(C:Cx F y J c u)(E:Ax u O X)(k:VW J c O)(t:∀i,X i->8<=i):Cx F y J c O:=
 ⟨k,λv q s=>C.G v (λi V=>(q i V).trans (E.block i (aC V (aF C.g8 C.sz)) λZ=>by have:=t i Z;omega)) s,C.3,aF C.sz E.size,C.g8⟩
def Cx.kx(C:Cx F y J c u)(E:Ax u O X)(k:VW J c O)(t:∀i,X i->y<=i):=C.kx8 E k λi V=>aF C.g8 (t i V)
def Cx.glob(C:Cx F y J c u)(s:Yb c u v):=
 C.G v (λi V=>s.same λD=>by have:=C.3 i D;omega) (by rw[s.size];exact C.sz)
def B5{B}(h:iM w B):Ax w B X:=Ax.of_below h (aB _)
def BsB(c:hY)(u:qg)(bv:w8)(l:hQ):Prop:=∃b off cap,bv=um (ni (iK b off)) (iR l) cap/\iR l<=cap/\b<iS u.1/\¬c b/\Bytes u b off l
def BsB.sim(h:BsB c u T l)(s:Yb c u v):J8 v T l:=by
 have ⟨b,off,I,C,J,a,q,z⟩:=h;exact⟨b,off,I,C,J,by rwa[s.size],λi V=>(Ce (s.same q)).trans (z i V)⟩
def BsB.kx(h:BsB c u T l)(E:Ax u O X)(t:∀b,X b->b<iS u.1->c b):BsB c O T l:=by
 have ⟨b,off,I,C,J,a,q,z⟩:=h;exact⟨b,off,I,C,J,aC a E.size,q,λi V=>(Ce (E.block b a λZ=>q (t b Z a))).trans (z i V)⟩
def Qt{B}{X:iC}(W:VW J c O)(N:∀i,c i->i<B)(s:∀i,¬c i->L.1[i]?=O.1[i]?)(h:L.ownsRow B 5 1 x n X):O.ownsRow 0 5 1 x n X/\∀g,x.ownBlock=ni g->¬c g/\B<=g:=by
 obtain⟨F,⟨rfl,C⟩|⟨g,I,H,rfl,a,T,q⟩⟩:=h
 ·exact⟨⟨F,p8 ⟨iP,C⟩⟩,λg e=>BB⟩
 ·refine⟨⟨F,n9 ⟨g,I,H,iP,bE _,Ai,q⟩⟩,λR e=>?_⟩;obtain rfl:g=R:=by simpa[Value.ownBlock] using e
  exact⟨(λD=>by have:=N g D;omega),a⟩
def Gm.setVer(S:Gm h J c u d num a en t m)(v):Gm h J c (u.setCell (iK d 3) (iL v)) d num v en t m:=by
 obtain⟨b,e,N,F,T,q,z⟩:=S.row;refine⟨S.inb,S.j,⟨b.setIfInBounds 3 (iL v),by rw[heap_setCell,aJ iP,e];rfl,by simp[N],?_,?_,?_,?_⟩,Di S.own λg G=>Ef _ _ λf=>S.ap g G (f▸S.inb),S.ap,λx Z=>?_⟩
 ·grind
 ·grind
 ·rwa[aE Ae]
 ·simp_all
 ·rw[heap_setCell,aJ iP,e]at Z;cases Z
  show(b.setIfInBounds 3 (iL v))[1]?=_/\(b.setIfInBounds 3 (iL v))[2]?=_;exact Cra
def Ak3(o:Im z F)(C:Cx F y J c u)(S:Gm h J c u d num 0 en t m)(K:iR m<=10000000000)(Y:∀e,t.ownBlock=ni e->y<=e)(B T)(I:BsB c u T [0,0,0,1]):Bg qz tu J N 66 #[B,iI d,T] u λx O=>x=my #[]/\Ax u O (λi=>i=d∨t.ownBlock=ni i)/\VW J c O/\∃k,Gm h J c O d num 1 en k (m++[0,0,0,4,0,0,0,1])/\∀e,k.ownBlock=ni e->t.ownBlock=ni e∨iS u.1<=e:=by
 refine Bh func66 Ac iP (R:=λ_=>my #[]) (λ_ _=>pqk Ac _ _ _) (λ_ _=>kmq Ac _ _) ?_;simp only[ntmps66,na,Nat.reduceAdd,Nat.reduceSub];refine Rxn ?_;refine V2g ?_;refine A3 (Gl (f:=115) (args:=#[T]) Ae C.W (X:=λ_=>False) (R:=λx _=>x=my #[iL 1,vp tu]) (λ_ _ Z=>Z) λv s=>?_) iP Ac iP Af ?_
 ·have l:=C.glob s;exact(CZ o v l.tabs l.table T [0,0,0,1] Ae (I.sim s) 1 (Oi z parse_hello (puts_hello z (n:=1) Ae Ae))).mono λE R Z=>⟨⟨_,Z.1,iP⟩,B5 Z.2⟩
 rintro x a⟨X,P,L,M,Q,rfl⟩;refine Mtk ?_;refine Vj2 ?_;refine M8j ?_;refine Qit ?_;refine Zln ?_;refine Nqc ?_;refine M8j ?_;refine Qit ?_;refine Zln ?_;refine Nqc ?_;refine Rxn ?_
 iterate 5(refine V2g ?_)
 have b:=S.kx X (λZ=>Z) λ_ _ Z=>Z;refine Cy (S:=env Lv) iP Ac (B7 Ab) (A4 _ _) (x:=uw) (v':=a.setCell (iK d 3) (iL 1)) (λg=>n9 ⟨by have U:=(show sw (World.at a g) (iK d 3)=_ from b.cell.2.1);have hf:=(show esk (World.at a g) (iK d 3)=o9 from b.fz 3);walk_nrm;go_simp;first|done|rfl,rfl⟩) (λg=>by walk_nrm;intro E H;simp[go_sem,((show sw (World.at a g) (iK d 3)=_ from b.cell.2.1)),((show esk (World.at a g) (iK d 3)=o9 from b.fz 3)),nk _ _ _ _ (Value.int _ _) uwj iP,dnd]at H;subst H;exact Cl (S.j 3 Ae Ae)) ?_;walk_nrm;refine Vj2 ?_;have j:=b.setVer 1;have a1:=P.set d 3 (iL 1);have ai:=Et a d 3 (iL 1);generalize a.setCell (iK d 3) (iL 1)=aa at j a1 ai⊢;have w:Ax u aa (· = d):=(X.mono λ_ Z=>Z.elim).trans ai;refine Ay ?_;refine Ldr ?_;refine Bq j.cell.2.1 (S.j 3 Ae Ae) ?_;walk_nrm;refine A3 (Gl (f:=116) (args:=#[iL 1]) Ae a1 (X:=λ_=>False) (R:=λx R=>R.ownsRow aa.1.size 5 1 x 8 (A5 [0,0,0,4,0,0,0,1])) (λ_ _ Z=>Z) λv s=>?_) iP Ac iP Af ?_
 ·have l:=(C.kx8 w a1 (λi Z=>by subst Z;exact C.3 i S.inb)).glob s;refine(XZ o v l.tabs l.table 1 Ae Ae).mono λE R Z=>?_;exact Dzo
 rintro f ah⟨W,a7,aj,ad,ak,ae⟩;walk_nrm;obtain⟨r,n⟩:=Qt a7 (λi V=>a1.lt V) ad ae;refine A3 (OU a7 (j.kx W (λZ=>Z) λ_ _ Z=>Z) f [0,0,0,4,0,0,0,1] Ae Ah r λe G=>(n e G).1) iP Ac iP Af ?_;rintro x ab⟨rfl,D⟩;walk_nrm;obtain⟨k,p,q⟩:=D.S;have A:Ax u ah (λi=>i=d∨t.ownBlock=ni i):=(w.mono λ_ Z=>p8 Z).trans (W.mono λ_ Z=>Z.elim);refine Au ⟨p8 iP,iP,trivial,A.trans D.K,D.W,k,p,λe G=>(q e G).imp id λZ=>aF A.size Z⟩
end
def Ka:oe:=f46.body.getD .skip
def V4:oe:=Code.two (Code.two (Code.two (Code.two (Code.two (Code.two Ka)))))
def UY:oe:=Code.core (Code.core (Code.two (Code.one V4)))
def FI:oe:=Code.two UY
def CX:Array km:=Code.opsOf (Code.one UY)
def Aot:Array km:=Code.opsOf (Code.one (Code.core (Code.two FI)))
def Ajd:Array km:=Code.opsOf (Code.two (Code.core (Code.two FI)))
def Kr:oe:=Code.two V4
def VF:Array km:=Code.opsOf (Code.one Kr)
def IG:oe:=Code.two Kr
def Kg(y:iD):Act:={ tmps:=#[y 0,y 1,y 2,y 3,y 4,y 5,y 6,y 7,y 8,y 9,y 10,y 11,y 12,y 13,y 14,y 15,y 16,y 17,y 18,y 19,y 20,y 21,y 22,y 23,y 24,y 25,y 26,y 27,y 28,y 29],defers:=[] }
def Y0(n y):Bw n (Kg y)=Kg λi=>A1 n (y i):=by simp[Bw,Kg]
def Ge(kk:List Item)(z:List zq)(y:iD):o5:=G ((base 46).at (Kg y) (.inRegion CX [0,1]::.code FI::.inLoop (.seq (.region 8 CX o9) FI)::.inBlock 0::kk)) z
def Mq(n z y):Bn n (Ge [.code Kr] z y)=Ge [.code Kr] (z.map (Bm n)) λi=>A1 n (y i):=by
 unfold Ge;rw[Ep,Gu,Y0]
 rfl
def H9(z:List zq)(y:iD):o5:=G ((base 46).at (Kg y) [.inRegion VF [],.code IG]) z
def Vk(n z y):Bn n (H9 z y)=H9 (z.map (Bm n)) λi=>A1 n (y i):=by
 unfold H9;rw[Ep,Gu,Y0]
 rfl
section
variable {J:hZ} {j:List Item}
def Ao2(y f cap)(x:w8)(U:y 2=.func (.func f) #[] cap){n:iA}(g:Bg qz tu J N f (#[x]++cap) u λr O=>r=my #[]/\n O)(C:∀W O,n O->(∀a,a<9∨a=17->W a=y a)->∀d,N (Ge j z W) (O.at d)):EV qz tu J N (jy (core (Ge j z y)) (my #[x,vp tu])) u:=by
 have E:(base 46).kind=.normal:=iP;unfold Ge;rw[Xc (o:=CX[0]' Ae) iP];refine EV.opPure (S:=env Lv) (fn:=46) (x:=vp tu) E iP Ac (B7 Ab) (A4 _ _) (λw=>Ac) (λw=>Ac) ?_;refine EV.regionEnd (EV.seqC (EV.condC (t:=tu) Ac ?_));simp only[bP];refine EV.skipC (EV.blockC (EV.seqC (EV.regionC (ops:=Aot) ?_)));rw[show jk Aot.size = [0,1] from iP]
 iterate 2(refine Wjj ?_)
 refine EV.regionEnd (EV.regionC (ops:=Ajd) ?_);rw[show jk Ajd.size = [0,1,2] from iP];refine EV.opPure (S:=env Lv) (fn:=46) (x:=.func (.func f) #[] cap) E iP Ac (B7 Ab) (A4 _ _) (λw=>by rw[←U];rfl) (λw=>Ac) ?_;refine Wjj ?_;refine EV.opClo (f:=f) (cap:=cap) (q:=.tmp 21) (args:=#[.tmp 22]) (ats:=#[37]) E iP Ac iP Ac Ac (by simp[Eg]) (by simp[hv6];rfl) g ?_;rintro r Z⟨rfl,H⟩;refine EV.regionEnd (EV.inBlockC (EV.inLoopC (EV.seqC (EV.regionC (ops:=CX) ?_))));rw[show jk CX.size = [0,1] from iP];refine EV.stop (C (λi=>([y 0,y 1,y 2,y 3,y 4,y 5,y 6,y 7,y 8,x,y 10,y 11,y 12,y 13,y 14,y 15,y 16,y 17,my #[x,vp tu],vp tu,x,.func (.func f) #[] cap,x,my #[],y 24,y 25,y 26,y 27,y 28,y 29]:iC).getD i uw) Z H ?_);intro a l;have T:a<18:=Aa
 match a,T with
 |0,_|1,_|2,_|3,_|4,_|5,_|6,_|7,_|8,_|10,_|11,_|12,_|13,_|14,_|15,_|16,_|17,_=>rfl
 |9,_=>omega
set_option maxRecDepth 100000 in
def Ab0(N y)(L:y 17=.chan (ni N))(j w):stepG Z tu (Ge j z y) w=.comm (core (Ge j z y)) #[rcase N (um su 0 0)] tu (.recv tu) w #[]:=by
 unfold Ge;simp only[CX,UY,V4,Ka,Code.opsOf,Code.one,Code.two,Code.core,f46,bJ,Kg,L];rw[stepG_comm iP Ac Ae (cases:=#[rcase N (um su 0 0)]) (blocking:=tu) (shape:=.recv tu) (w':=w) (by simp[go_sem,execOp,rcase,hv6,mo,zeroValue37])];rw[listed_nil (by simp[go_sem,execOp,hv6,mo,zeroValue37])]
 rfl
set_option maxRecDepth 100000 in
theorem Aqd{C:KG}(H:C.P=qz)(v:C.ty=128)(y:Nat->w8)(I:y 8=w9 (ni ⟨C.Wg,0,su⟩))(L:y 17=.chan (ni C.Ch)){w:qg}(W:E3 C.ty C.Wg w)(m:∀R B,R.status=.running->Sx C.P (H9 z fun i=>if i=18 then my #[um su 0 0,vp o9] else if i=19 then vp o9 else if i=24 then my #[] else y i) R B->C.PostA R B) :
  ARc C (Ge [.code Kr] z y) w:=by
 obtain⟨P,Shun,k,Wg,Ch,ty,LA,LB,KB,w0,PostA⟩:=C
 simp only at H v I L W
 subst H v
 have T:Terms (RG 128 Wg) Go.Pair.D0:=⟨rgT,fun _=>⟨rfl,rfl⟩⟩
 refine⟨rfl,um su 0 0,Ab0 Ch y L _ w,fun d b=>?_⟩
 have Y:=b W
 clear b
 refine⟨100+8,?_⟩
 unfold Ge
 rw [Xc (o:=CX[0]' Ae) rfl]
 simp only [CX,FI,UY,V4,Ka,Code.opsOf,Code.one,Code.two,Code.core,f46,bJ,Kg]
 refine Rl rfl Ac Ae fun K b F p=>?_
 replace Y:=b Y
 clear b
 try walk_nrm
 go_simp
 refine p _ _ ⟨by co_quiet T,?_⟩
 clear p F
 try walk_nrm
 refine Thb ?_
 refine Ckz ?_
 refine Ds T rfl (fun w=>stepG_cond (t:=o9) rfl) ?_
 refine Ds T rfl (fun w=>stepG_exit (k':=[.code Kr]) rfl) ?_
 rw [show Kr=.seq (.region 11 VF o9) IG from rfl]
 refine Ckz ?_
 refine C2y ?_
 rw [show jk VF.size = [0] from rfl]
 refine Goes.step rfl fun d b=>goes_call (f:=65) (fn:=Lib.waitFn Tryz.link) (c:=Zf Tryz.link) rfl Ac Ae rfl Tryz.wgLib.f_wait Ac Ac ⟨T.idle _,?_⟩
 replace Y:=b Y
 clear b
 rw [show Array.map (hv6 ({ tmps:=#[y 0,y 1,y 2,y 3,y 4,y 5,y 6,y 7,w9 (ni ⟨Wg,0,su⟩),y 9,y 10,y 11,y 12,y 13,y 14,y 15,y 16,.chan (ni Ch),my #[um su 0 0,vp o9],vp o9,y 20,y 21,y 22,y 23,y 24,y 25,y 26,y 27,y 28,y 29],defers:=[] }:Act)) #[Operand.tmp 8]=#[w9 (ni ⟨Wg,0,su⟩)] by simp [hv6]]
 refine Apn (C:={ P:=qz,Shun,k,Wg,Ch,ty:=128,LA,LB,KB,w0,PostA }) Tryz.wgLib rfl (b₀:=base 46) (a₀:={ tmps:=#[y 0,y 1,y 2,y 3,y 4,y 5,y 6,y 7,w9 (ni ⟨Wg,0,su⟩),y 9,y 10,y 11,y 12,y 13,y 14,y 15,y 16,.chan (ni Ch),my #[um su 0 0,vp o9],vp o9,y 20,y 21,y 22,y 23,y 24,y 25,y 26,y 27,y 28,y 29],defers:=[] }) (ops₀:=VF) (i₀:=0) (rest₀:=[]) (k₀:=[.code IG]) (cs:=z) _ Y (fun R a s X=>?_)
 obtain⟨nn,X⟩:=X
 refine m R a s ⟨rfl,nn,Rk (fun _ _ h=>h) (fun _ _ _ h=>h) (fun x _ Z=>Z.trans ?_) X⟩
 unfold H9 Kg
 simp only [I,L]
 rfl
end
section
variable {L:Mv} {p m low:Nat} {x:Nat->Nat} {r:qg} {k Y:hZ} {a:(Nat->Prop)->o5->qg->Prop}
structure Yk(c b f)(cap:iB)(p3)(y:iD):Prop where
 h2:y 2=.func (.func f) #[] cap
 h3:y 3=p3
 h8:y 8=iI c
 h17:y 17=.chan (ni b)
def KL(c b:Nat)(f:pz)(cap:iB)(p3:w8)(z:List zq)(I:List (hQ)->qg->Prop)(g:o5)(v:qg):Prop:=∃y,g=Ge [.code Kr] z y/\Yk c b f cap p3 y/\I [] v
def Ana(c b:Nat)(f:pz)(cap:iB)(p3:w8)(z:List zq)(I:List (hQ)->qg->Prop)(g:o5)(v:qg):Prop:=∃y,g=H9 z y/\Yk c b f cap p3 y/\I [] v
def Aa2(k:hZ)(f:pz)(cap:iB)(I:List (hQ)->qg->Prop):Prop:=
 ∀b rest v,I (b::rest) v->∀Stop,Bg Z tu k Stop f (#[um (ni (iJ v.1.size)) (iR b) (iR b)]++cap) { v with heap:=v.1.push (jf (rowOf b) 5 (0,0)) } λr v'=>r=my #[]/\I rest v'
def scA{I e}{d:List (hQ)->qg->Prop}(o:∀Z v i,d Z v->d Z (World.at v i))(H:Aa2 k f I d):∀(F:gY) y v,Yk c b f I e y->d F v ->
  ScA (KI L b c K j p m x E r low k Y (KL c b f I e z d) a) (F.map rowOf) (Ge [.code Kr] z y) v:=by
 have l:∀y,Yk c b f I e y->∃q,(KI L b c K j p m x E r low k Y (KL c b f I e z d) a).AtRecv q (Ge [.code Kr] z y):=λy U=>by
  refine⟨um su 0 0,iP,λn w t=>?_⟩;rw[Mq];exact Ab0 _ _ (by rw[U.4];simp[A1]) _ w
 intro F
 induction F with
 |nil=>exact λy v U V=>⟨l y U,y,iP,U,V⟩
 |cons h s O=>
  intro y v U V;refine⟨l y U,?_⟩
  show EV qz tu k _ (jy (core (Ge [.code Kr] z y)) (my #[um (ni (iJ v.1.size)) (rowOf h).size (rowOf h).size,vp tu])) _;rw[BG];refine Ao2 y f I _ U.h2 (H h s v V _) λW u Q g i=>?_;exact O W _ ⟨(g 2 Aa).trans U.h2,(g 3 Aa).trans U.2,(g 8 Aa).trans U.h8,(g 17 Aa).trans U.4⟩ (o _ _ _ Q)
def Acn{Bs u0 sb co bb pg q t f cap p3}{I:List (hQ)->qg->Prop}(hI:∀ms v d,I ms v->I ms (World.at v d))(O:(KI L b c K j p m x E r low k Y (KL c b f cap p3 z I) (TY Y Bs u0 pg sb co bb j K q t)).Ok):Vz (KI L b c K j p m x E r low k Y (KL c b f cap p3 z I) (TY Y Bs u0 pg sb co bb j K q t)) where
 EndA:=Ana c b f cap p3 z I
 EndB:=TX Y Bs u0 pg sb co bb q t
 atA:=λg v d⟨y,h1,h2,h3⟩=>⟨y,h1,h2,hI _ _ _ h3⟩
 atB:=λS v d h=>Zn d h
 finA:=λg v⟨y,h1,h2,h3⟩=>by
  subst h1;refine⟨H9 z λi=>if i=18 then my #[um su 0 0,vp o9] else if i=19 then vp o9 else if i=24 then my #[] else y i,⟨_,iP,⟨h2.h2,h2.2,h2.h8,h2.4⟩,h3⟩,λM hM=>?_,λKB w0' n w hG hc hg hw=>?_⟩
  ·rw[Mq]at hM;rw[Vk];have e1:z.map (Bm (.up M))=z:=by
    have:=aK Goroutine.callers hM;exact this
   have e2:(Kg λi=>A1 (.up M) (y i))=Kg y:=by
    have:=aK (λg:o5=>g.frame.tmps) hM;have h':(Kg λi=>A1 (.up M) (y i)).tmps=(Kg y).tmps:=this;have hd:(Kg λi=>A1 (.up M) (y i)).defers=(Kg y).defers:=iP;cases ha:(Kg λi=>A1 (.up M) (y i));cases hb:Kg y;rw[ha,hb]at h' hd;simp only at h' hd;rw[h',hd]
   simp only[Kg,Act.mk.injEq,gA,dG,and_true,true_and]at e2;unfold H9;rw[e1]
   congr 1
   congr 1
   simp[Kg,e2,A1]
  ·rw[Mq,Vk];refine Aqd iP iP _ (by rw[h2.h8];simp[A1,Ei,hg];rfl) (by rw[h2.4];simp[A1];exact hc) hw λg' w' hr hb=>?_;refine cast ?_ hb
   congr 2
   funext i
   split
   ·simp[A1]
   ·split
    ·simp[A1]
    ·split
     ·simp[A1]
     ·rfl
 finB:=λS g v⟨⟨T,h1⟩,h2⟩=>⟨h2,λn w hG hc hg hw=>by
  subst h1;rw[Aet,show sh n j=L.Wg from hg,show sh n K=L.Ch from hc];exact Aq2 O.neq _ w hw⟩
end
abbrev B9(db tb wm sm:Nat)(last:Int)(down:Bool):Array w8:=#[iI db,iI tb,.map (ni wm),.map (ni sm),iL last,vp down]
def Jg(rb:Nat)(rc:iB)(rt:mi)(svb:Nat)(vc:iB)(w:qg):Prop:=w.1[rb]?=ni (jf rc rt)/\w.1[svb]?=ni (jf vc 95)
def Jg.at{rb rc rt svb vc}(w d)(h:Jg rb rc rt svb vc w):Jg rb rc rt svb vc (w.at d):=h
def At3(rb:Nat)(rc:iB)(rt:mi)(svb:Nat)(vc:iB)(sb:Nat)(v:Int)(w:qg):Prop:=Jg rb rc rt svb vc w/\w.cell? (iK sb 3)=ni (iL v)
def At3.at{rb rc rt svb vc sb v}(w d)(h:At3 rb rc rt svb vc sb v w):At3 rb rc rt svb vc sb v (w.at d):=h
def Ax.keep{w B}(h:Ax w B X){b o}(D:w.1[b]?=ni o)(Z:¬X b):=(h.block b (ltOf D) Z).trans D
section
variable {z:gZ} {J:hZ} {sn a:Int} {t:w8}
def We(m z e:Int):hQ:=be (be m 4++be z 8++be e 4).length 4++(be m 4++be z 8++be e 4)
def N3(m z e):(We m z e).length=20:=by simp[We,be_length]
def Cj.sim{a t num r}(h:Cj u a t num r)(s:Yb Bs u L)(C:¬Bs a)(J:¬Bs t):Cj L a t num r:=⟨(s.same C).trans h.blk,h.map.of_block (s.same J)⟩
def Cj.kx{X a t num r}(h:Cj u a t num r)(E:Ax u O X)(C:¬X a)(J:¬X t):Cj O a t num r:=⟨(E.block _ (ltOf h.blk) C).trans h.blk,h.map.of_block (E.block _ h.map.lt J)⟩
def Cj.at{a t num r}(h:Cj u a t num r)(d):Cj (u.at d) a t num r:=⟨h.blk,h.map.of_block iP⟩
def Told.at(b:Told h J Bs u O sb sn a en t m l)(d):Told h J Bs u (O.at d) sb sn a en t m l:=⟨b.K.at d,b.W.at d,let⟨o,c,e⟩:=b.S;⟨o,c.at d,e⟩,b.4⟩
def Told.from{P}(b:Told h J Bs u O sb sn a en t m l)(E:Ax P u iO)(q:sb<iS P.1):Told h J Bs P O sb sn a en t m l:=
 ⟨(E.mono λ_ b=>b.elim).trans b.K,b.W,let⟨o,c,d⟩:=b.S;⟨o,c,λg G=>(d g G).imp id λb=>aF E.size b⟩,λk e B C f T=>b.4 k e B ((E.block sb q λb=>b).trans C) f T⟩
structure GN(Bs:hY)(u:qg)(svb db tb mb wm sm:Nat)(last down num ns):Prop where
 hv:u.1[svb]?=ni (jf (B9 db tb wm sm last down) 95)
 nv:¬Bs svb
 ht:Cj u tb mb num ns
 nt:¬Bs tb
 nm:¬Bs mb
 z1:-9223372036854775808<=num
 z2:num<=9223372036854775807
def VL(G:Im z F)(C:Cx F y J Bs u)(S:Gm h J Bs u sb sn a en t m)(ar:iR m<=10000000000){tb O g num r}(V:GN Bs u svb b tb c M sm O g num r)(ab:t.ownBlock≠ni svb)(kind B p o n K k I)(H:-2147483648<=B)(ai:B<=2147483647)(aw:-2147483648<=I)(ax:I<=2147483647):Bg qz tu J N 159 #[iI svb,iI sb,J7 kind B p o n K k,iL I] u λx u'=>x=my #[]/\Told h J Bs u u' sb sn a en t m (We B num I):=by
 have Ig:=S.lt;apply Bh func159 Ac iP (R:=λ_=>my #[]) (λ_ _=>pqk Ac _ _ _) (λ_ _=>kmq Ac _ _);simp only[ntmps159,na,Nat.reduceAdd,Nat.reduceSub];refine Vwr λu1 X af Y=>?_;have a6:=X.keep V.1 id;have nr:¬Bs u.1.size:=λZ=>by have:=C.W.lt Z;omega
 have w:=Jg.at (rb:=iS u.1) (rc:=A7 kind B p o n K k) (rt:=131) (svb:=svb) (vc:=B9 b tb M sm O g);refine Em (I:=Jg u.1.size (A7 kind B p o n K k) 131 svb (B9 b tb M sm O g)) Ac λQ=>?_;have T:∀(P:Act)q(o:Nat),((cxv=cxv∨cxv=Exit.ret)/\P.defers = []/\True/\Told h J Bs u q sb sn a en t m (We B num I))->((cxv=cxv∨cxv=Exit.ret)/\P.defers = []/\True/\Told h J Bs u (q.at o) sb sn a en t m (We B num I)):=λP q o⟨h1,U,a8,h4⟩=>⟨h1,U,a8,h4.at o⟩;have L:Jg u.1.size (A7 kind B p o n K k) 131 svb (B9 b tb M sm O g) (u1.at Q):=⟨Y,a6⟩;apply A9.tp 0 w T L;walk_nrm;apply A9.tp 2 w T L;walk_nrm;apply A9.tp 3 w T L;walk_nrm;apply A9.tp 4 w T L;walk_nrm;apply A9.tp 7 w T L;walk_nrm;apply A9.tl 5 w T L (λq (e:Jg _ _ _ _ _ q)=>(cellOf (j:=1) e.2 iP:q.cell? (iK svb 1)=ni (iI tb))) (λZ=>V.nv (C.W.2 _ Z));walk_nrm;refine A9.take (i:=1) (x:=(J7 kind B p o n K k)) w T iP Ab Ab Ab (Gq (S:=env Lv) Ac (B7 (fn:=0) Ab) (A4 _ _) ?_) L ?_
 ·intro q e;have ⟨c0,c1,c2,c3,c4,c5,c6⟩:=P9 e.1 iP;exact Dt7
 walk_nrm;refine Ca (i:=6) (Gl (f:=42) (args:=#[iI tb]) Ae (af.at Q) (X:=λ_=>False) (R:=λx _=>x=iL num) (λ_ _ Z=>Z) λd l=>?_) Ab iP Ac iP Af ?_
 ·exact(Kd d tb c num r (((V.ht.kx X id id).at Q).sim l V.4 V.nm)).mono λE R Z=>⟨⟨_,Z.1,iP⟩,by rw[Z.2];exact Ax.refl _ _⟩
 rintro x aa⟨j,a1,L2,az,b5,rfl⟩;have A:Ax u aa iO:=(X.at Q).trans j;refine⟨⟨j.keep Y id,j.keep a6 id⟩,?_⟩;walk_nrm;refine Ca (i:=8) (Gl (f:=187) (args:=#[J7 kind B p o n K k,iL num,iL I]) Ae a1 (X:=λ_=>False) (R:=λx R=>R.ownsRow aa.1.size 5 1 x (We B num I).length (A5 (We B num I))) (λ_ _ Z=>Z) λd l=>?_) Ab iP Ac iP Af ?_
 ·have D:=(C.kx A a1 (λ_ Z=>Z.elim)).glob l;refine(XK G d D.tabs D.table kind B p o n K k num I H ai V.6 V.z2 aw ax).mono λE R Z=>?_;exact Smd
 rintro f ah⟨W,a7,aj,ad,ak,ae⟩;have v:Ax u ah iO:=A.trans W;refine⟨⟨W.keep (j.keep Y id) id,W.keep (j.keep a6 id) id⟩,?_⟩;walk_nrm;obtain⟨an,ao⟩:=Qt a7 (λi hi=>a1.lt hi) ad ae;apply Ca (i:=9) (OU a7 (S.kx v (λZ=>Z) λ_ _ Z=>Z) f (We B num I) (by rw[N3];decide) (by rw[N3];omega) an λaq hg=>(ao aq hg).1) Ab iP Ac iP Af;rintro x u4⟨rfl,s⟩;have al:=s.from v Ig;refine⟨⟨s.K.keep (W.keep (j.keep Y id) id) ?_,s.K.keep (W.keep (j.keep a6 id) id) ?_⟩,?_⟩
 ·rintro(Z|Z)
  ·omega
  ·have:=Cm S.own Z;omega
 ·rintro(Z|Z)
  ·exact V.nv (Z▸S.inb)
  ·exact ab Z
 walk_nrm;exact A9.all Ab ⟨p8 iP,iP,trivial,al⟩ _
end
section
variable {z:gZ} {J:hZ} {c:hY} {H:Int} {t:w8}
abbrev VsB(c:hY)(u:qg)(l:List Orch.V)(lv:w8):Prop:=D9 u (λb=>b<iS u.1/\¬c b) l lv
def VsB.sim{l a}(h:VsB c u l a)(s:Yb c u L):D9 L (λb=>b<iS L.1) l a:=
 D9.congr (λb D=>by rw[s.size];exact D.1) (λb D=>s.same D.2) h
def VsB.kx{X l a}(h:VsB c u l a)(E:Ax u O X)(t:∀b,X b->b<iS u.1->c b):VsB c O l a:=
 D9.congr (λb D=>⟨aC D.1 E.size,D.2⟩) (λb D=>E.block b D.1 λZ=>D.2 (t b Z D.1)) h
def CP(body:hQ):hQ:=be (iR body) 4++body
def Uu(body):(CP body).length=4+iR body:=by rw[CP,aM,be_length]
def On(an:Im z F)(C:Cx F y J c u)(S:Gm h J c u sb H 1 en t m)(b6:iR m<=10000000000){a tb O A num r}(V:GN c u svb a tb b M sm O A num r)(ab:t.ownBlock≠ni svb)(kind)(ar:kind<8)(B p o n K k)(ai:hU)(au:∀d,V0 F y d->d.cell? ⟨3,kind * 3+1,su⟩=ni (x7 ai))(l lv)(av:l = []->lv=um su 0 0)(aw:iR l<=100)(ax:VsB c u l lv)(ty)(hp:parse ai.data.toList=ni ty)(body)(hq:put z 9 [] ty (.mk 0 iN ([Orch.num B,Orch.num num,Orch.num 0]++l))=ni body)(b7:0<iR body)(ay:iR body<=1000):Bg qz tu J N 122 #[iI svb,iI sb,J7 kind B p o n K k,lv] u λx u'=>x=my #[]/\Told h J c u u' sb H 1 en t m (CP body):=by
 have Ig:=S.lt;apply Bh func122 Ac iP (R:=λ_=>my #[]) (λ_ _=>pqk Ac _ _ _) (λ_ _=>kmq Ac _ _);simp only[ntmps122,na,Nat.reduceAdd,Nat.reduceSub];refine Vwr λu1 X af Y=>?_;have a6:=X.keep V.1 id;have nr:¬c u.1.size:=λZ=>by have:=C.W.lt Z;omega
 have w:=At3.at (rb:=iS u.1) (rc:=A7 kind B p o n K k) (rt:=131) (svb:=svb) (vc:=B9 a tb M sm O A) (sb:=sb) (v:=1);refine Em (I:=At3 u.1.size (A7 kind B p o n K k) 131 svb (B9 a tb M sm O A) sb 1) Ac λQ=>?_;have T:∀(P:Act)(q:qg)(o:Nat),((cxv=cxv∨cxv=Exit.ret)/\P.defers = []/\True/\Told h J c u q sb H 1 en t m (CP body))->((cxv=cxv∨cxv=Exit.ret)/\P.defers = []/\True/\Told h J c u (q.at o) sb H 1 en t m (CP body)):=λP q o⟨h1,U,a8,h4⟩=>⟨h1,U,a8,h4.at o⟩;have L:At3 u.1.size (A7 kind B p o n K k) 131 svb (B9 a tb M sm O A) sb 1 (u1.at Q):=⟨⟨Y,a6⟩,(S.kx X (λZ=>Z) λ_ _ Z=>Z).cell.2.1⟩;refine Ogs ?_;apply A9.tp 3 w T L;walk_nrm;refine A9.tp 6 w T L ?_;walk_nrm;refine A9.tp 7 w T L ?_;walk_nrm;refine A9.tp 8 w T L ?_;walk_nrm;refine A9.tp 11 w T L ?_;walk_nrm;refine A9.tl 4 w T L (λq (e:At3 _ _ _ _ _ _ _ q)=>(e.2:q.cell? (iK sb 3)=ni (iL 1))) (S.j 3 Ae Ae) ?_;walk_nrm;refine A9.tl 9 w T L (λq (e:At3 _ _ _ _ _ _ _ q)=>(cellOf (j:=1) e.1.2 iP:q.cell? (iK svb 1)=ni (iI tb))) (λZ=>V.nv (C.W.2 _ Z)) ?_;walk_nrm;refine A9.take (i:=5) (x:=(J7 kind B p o n K k)) w T iP Ab Ab Ab (Gq (S:=env Lv) Ac (B7 (fn:=0) Ab) (A4 _ _) ?_) L ?_
 ·intro q e;have ⟨c0,c1,c2,c3,c4,c5,c6⟩:=P9 e.1.1 iP;exact Dt7
 walk_nrm;refine Ca (i:=10) (Gl (f:=42) (args:=#[iI tb]) Ae (af.at Q) (X:=λ_=>False) (R:=λx _=>x=iL num) (λ_ _ Z=>Z) λd s=>?_) Ab iP Ac iP Af ?_
 ·exact(Kd d tb b num r (((V.ht.kx X id id).at Q).sim s V.4 V.nm)).mono λE R Z=>⟨⟨_,Z.1,iP⟩,by rw[Z.2];exact Ax.refl _ _⟩
 rintro x aa⟨j,a1,L2,az,b5,rfl⟩;have I:Ax u aa iO:=(X.at Q).trans j;have S2:=S.kx I (λZ=>Z) λ_ _ Z=>Z;refine⟨⟨⟨j.keep Y id,j.keep a6 id⟩,S2.cell.2.1⟩,?_⟩;walk_nrm;refine Ca (i:=12) (Gl (f:=171) (args:=#[iL 1,J7 kind B p o n K k,iL num,lv]) Ae a1 (X:=λ_=>False) (R:=λx R=>R.ownsRow aa.1.size 5 1 x (CP body).length (A5 (CP body))) (λ_ _ Z=>Z) λd s=>?_) Ab iP Ac iP Af ?_
 ·have g:=(C.kx I a1 (λ_ Z=>Z.elim)).glob s;refine(PW an d g.tabs g.table kind ar B p o n K k num ai (au d g) (by have:=g.size;have:=C.g8;omega) l lv av aw ((ax.kx I λ_ Z=>Z.elim).sim s) ty hp body hq Aa ay).mono λE R Z=>?_;exact Dzo
 rintro f ah⟨W,a7,aj,ad,ak,ae⟩;have v:Ax u ah iO:=I.trans W;have S3:=S.kx v (λZ=>Z) λ_ _ Z=>Z;refine⟨⟨⟨W.keep (j.keep Y id) id,W.keep (j.keep a6 id) id⟩,S3.cell.2.1⟩,?_⟩;walk_nrm;obtain⟨ao,aq⟩:=Qt a7 (λi hi=>a1.lt hi) ad ae;have b8:=Uu body;refine Ca (i:=13) (OU a7 S3 f (CP body) Aa Aa ao λG hg=>(aq G hg).1) Ab iP Ac iP Af ?_;rintro x bf⟨rfl,D⟩;have al:=D.from v Ig;obtain⟨b9,S4,_⟩:=D.S;refine⟨⟨⟨D.K.keep (W.keep (j.keep Y id) id) ?_,D.K.keep (W.keep (j.keep a6 id) id) ?_⟩,S4.cell.2.1⟩,?_⟩
 ·rintro(Z|Z)
  ·omega
  ·have:=Cm S.own Z;omega
 ·rintro(Z|Z)
  ·exact V.nv (Z▸S.inb)
  ·exact ab Z
 walk_nrm;exact A9.all Ab ⟨p8 iP,iP,trivial,al⟩ _
end
def call62(W B Cv Bv:Nat):Deferred:={ target:=.fn (.func 62) #[iI W,iI B,iI Cv,iI Bv],args:=#[] }
def Aj7(W B J Y w):stepG Z o9 (born Z (call62 W B J Y)) w =
  .go (G ((baseD 62).at ⟨#[iI W,iI B,iI J,iI Y,uw,uw,uw,uw,uw],[]⟩ [.code GR]) [bot]) w #[]:=by
 simp[born,call62,stepG,unwind,callDeferred,invoke,callFunc,func62,f62,seen,GStep.after,G,Frame.enter,Frame.at,baseD,bot,GR]
structure IV(B Cv Bv Ch sb co bv)(w:qg):Prop where
 b:w.cell? (iJ B)=ni (.chan (ni Ch))
 c:w.cell? (iJ Cv)=ni (w9 (ni (iK sb co)))
 v:w.cell? (iJ Bv)=ni bv
 lb:B<iS w.1
 lc:Cv<iS w.1
 lv:Bv<iS w.1
def OW(C:Mv):Terms C.RoR C.DRo:=⟨λ_ _ _ h k=>h.trans k,λw=>⟨iP,Ad⟩⟩
def T62(W B Cv Bv Ch sb co:Nat)(bv:w8):Array w8:=#[iI W,iI B,iI Cv,iI Bv,.chan (ni Ch),w9 (ni (iK sb co)),bv,.chan (ni Ch),uw]
def GV(W B Cv Bv Ch sb co:Nat)(bv:w8):o5:=G ((base 64).at (Dp (Jq sb co) bv (.chan (ni Ch)) uw (λ_=>uw)) [.code I8]) [QT (T62 W B Cv Bv Ch sb co bv) W Ch,bot]
section
variable {C:Mv}
set_option maxRecDepth 100000 in
def Ahg{q B Cv Bv Ch sb co}{ba:iE}{bl bc}(Z:∀i,i=B∨i=Cv∨i=Bv->C.5 (.cell (iJ i)))(hF:IV B Cv Bv Ch sb co (um ba bl bc) w):Goes qz o9 C.RoR C.DRo (λg _=>g=GV q B Cv Bv Ch sb co (um ba bl bc)) 15 (born qz (call62 q B Cv Bv)) w:=by
 have T:=OW C;have c:∀{w d:qg},IV B Cv Bv Ch sb co (um ba bl bc) w->C.RoR w d->IV B Cv Bv Ch sb co (um ba bl bc) d:=λh r=>
  ⟨(r.cell _ (Z _ (p8 iP)) h.lb).trans h.b,(r.cell _ (Z _ (n9 (p8 iP))) h.lc).trans h.c,(r.cell _ (Z _ (n9 (n9 iP))) h.lv).trans h.v,aC h.lb r.size,aC h.lc r.size,aC h.lv r.size⟩
 apply Ds T iP (λw=>Aj7 _ _ _ _ w);simp only[GR,f62,bJ];refine Ckz ?_;refine A80 ?_;apply Ds T iP (λw=>stepG_defer iP Ac Ae iP);walk_nrm;refine Thb ?_;refine Ckz ?_;refine A80 ?_;refine Rl iP Ac Ae λK b F a=>?_;replace hF:=c hF b;clear b;have p:=hF;have M:K.cell? (iJ B)=ni (.chan (ni Ch)):=p.b;go_simp;refine a _ _ ⟨⟨iP,?_⟩,?_⟩
 ·co_evs (exact⟨_,iP,Z _ (p8 iP),p.lb⟩)
 clear a F M
 try walk_nrm
 apply Ds T iP (λw=>Vq (c:=Ch) iP Ac Ae iP iP);walk_nrm;refine Thb ?_;refine A80 ?_;clear p;refine Rl iP Ac Ae λK b F a=>?_;replace hF:=c hF b;clear b;have p:=hF;have M:K.cell? (iJ Cv)=ni (w9 (ni (iK sb co))):=p.c;go_simp;refine a _ _ ⟨⟨iP,?_⟩,?_⟩
 ·co_evs (exact⟨_,iP,Z _ (n9 (p8 iP)),p.lc⟩)
 clear a F M p
 try walk_nrm
 refine Rl iP Ac Ae λK b F a=>?_;replace hF:=c hF b;clear b;have p:=hF;have M:K.cell? (iJ Bv)=ni (um ba bl bc):=p.v;go_simp;refine a _ _ ⟨⟨iP,?_⟩,?_⟩
 ·co_evs (exact⟨_,iP,Z _ (n9 (n9 iP)),p.lv⟩)
 clear a F M p
 try walk_nrm
 refine Rl iP Ac Ae λK b F a=>?_;replace hF:=c hF b;clear b;have p:=hF;have M:K.cell? (iJ B)=ni (.chan (ni Ch)):=p.b;go_simp;refine a _ _ ⟨⟨iP,?_⟩,?_⟩
 ·co_evs (exact⟨_,iP,Z _ (p8 iP),p.lb⟩)
 clear a F M p
 try walk_nrm
 refine Goes.step iP λK b=>goes_call iP Ac Ae iP func64 Ac iP ⟨T.idle _,?_⟩;replace hF:=c hF b;clear b;walk_nrm;simp only[ntmps64,cK,bA,cO,bC,aU,aX,Nat.reduceAdd,Nat.reduceSub,dF,dQ,eN,dZ,bR,cJ];intro e b
 rfl
def r6:oe:=Code.one (Code.two (Code.two (Code.two (Code.two (Code.two Ka)))))
def NC:Array km:=Code.opsOf r6
def Adx:Array km:=Code.opsOf (Code.one (Code.one V4))
def GO(z:List zq)(y:iD):o5:=G ((base 46).at (Kg y) [.inRegion NC [],.code V4]) z
set_option maxRecDepth 100000 in
def Ak9{z Bx Ch}(Z:C.5 (.cell (iJ Bx)))(y)(a:y 7=iI Bx)(M:w.cell? (iJ Bx)=ni (.chan (ni Ch)))(Y:Bx<iS w.1):Goes qz tu C.RoR C.DRo (λg _=>g=Ge [.code Kr] z λi=>if i=17 then .chan (ni Ch) else y i) 10 (GO z y) w:=by
 have T:=OW C;have c:w.cell? (iJ Bx)=ni (.chan (ni Ch))/\Bx<iS w.1:=⟨M,Y⟩;clear M Y;refine Thb ?_;rw[show V4=.seq (.seq (.region 7 Adx o9) (.block 0 (.loop (.seq (.region 8 CX o9) FI)))) Kr from iP]
 iterate 2(refine Ckz ?_)
 refine C2y ?_;refine Rl (o:=Adx[0]' Ae) iP Ac Ae λK b F p=>?_;replace c:K.cell? (iJ Bx)=ni (.chan (ni Ch))/\Bx<iS K.1:=⟨(b.cell _ Z c.2).trans c.1,aC c.2 b.size⟩;have M:=c.1;simp only[Adx,Code.opsOf,V4,Ka,Code.core,Code.one,Code.two,f46,bJ,Kg,a]at p⊢;go_simp;refine p _ _ ⟨⟨iP,?_⟩,?_⟩
 ·co_evs (grind)
 clear p F M
 try walk_nrm
 refine Thb ?_;apply Ds T iP (λw=>stepG_block);apply Ds T iP (λw=>stepG_loop);refine Ckz ?_;refine C2y ?_;rw[show jk CX.size = [0,1] from iP];intro d b;unfold Ge Kg;simp only[a]
 rfl
