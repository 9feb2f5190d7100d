import Derived.Test.YtcbilgmfdgpomaaGreatDoorQ03
set_option maxRecDepth 100000
set_option linter.all false
open Go renaming Goroutine → vr,World → gk,Value → uo,Program → im,Trace → wv,undef → qp,yielded → iu,FuncId → x8,TypeId → q9,Operand → zg,results → rz,callFunc → zo,Oper → ox,invoke → lx,Item → pf,getObj → x9,setObj → zv
open Go.Conc renaming stepG_region_end → zr,stepG_seq → qd,served → mz,mem_ofEvents → py,stepG_skip → y8,Goes → o2,deafBehind_still → vi,stepG_end → vj,mem_seen → yg,Deaf_own → xh,Deaf_other → zl,stepG_ret' → wc,seen_none → qm
open Bool renaming false → sd,true → km
open Option renaming some → lj,none → jh
open Go.Conc.QuitsD renaming value → vq
open Go.Region renaming wanted → qy
open Go.Sem renaming runT_eq → sr,bind → vz,runT → yw
open Go.World renaming cell? → ur
open Array renaming replicate → jj,getElem?_push_lt → yi,size → iL
open Pure renaming pure → wy
open Go.Instr renaming enterLoop → vo,takeDeferred → ly,yield → jl,beginRound → ru,getLoop → o7
open Go.Deferred renaming ofValue → k9
open Go.ConcN renaming Deaf_still → p9
open Go.CallKind renaming early → ri
open Bind renaming bind → zq
open Go.Conc.Goes renaming stop → ze
open Go.Obj renaming isChan → zz,cells → oh
open List renaming map → oo,length → iK
open Go.Value renaming func → rj,int → uu,bool → gd,tuple → js
open Go.Trace renaming g? → h9
open Or renaming inl → r7,inr → kr
open Go.Pair renaming EV → M
variable {E R a g g' h:vr}{I Y i j k q r rb s:Nat}{P:im}{S c:gV}{U d e v v' w:gk}{Z:List (Array uo)}{args:Array zg}{cap:gY}{fn:x8}{m:Array q9}{main:Bool}{o:ox}{p:Prop}{t:wv}{x:uo}
def Geh(h:p:=by
 have:=S i (aA V a.glob);unfold sh at this;rw[this,(a.fix i V)]):p:=h
def X5d(h:p:=by
 obtain⟨c,Z,rfl⟩:=Conc.mem_ofEvents T;obtain⟨b,rfl,_,K⟩:=N c Z;exact K):p:=h
def Z1t(h:p:=by
 obtain⟨c,Z,rfl⟩:=Conc.mem_ofEvents T;rcases Vu (N c Z) D with g|⟨r,g,J,k⟩
 ·exact .inl (.inl g)
 grind):p:=h
def R5y(h:p:=by
 exact .inl ⟨G.running (λx _ b=>by rw[b.1];exact b.2) w (Mw.RoR.refl w),Aa⟩):p:=h
def Dwv(h:p:=by
 rw[e];exact b.imp id λb=>b.imp id fun⟨m,C,J⟩=>⟨m,C,Goes.rely (R:=D.L.RoR) (λ_ _ _=>Mw.RoR.trans) J Y⟩):p:=h
def Ius(h:p:=by
 rw[Z]
 show invoke (.fn (.func f) cap) (#[]++args.map a.eval)=_;rw[eD]
 rfl):p:=h
def Gr5{q:Prop}(k:q)(h:Hd q->p:=by
 intro kz;have h:=Rf.newObj (H:=H) (P:=P) (n:=n) (o:=.chan m.toNat #[] false 0 0 false) trivial;have e:Dq n (.chan m.toNat #[] false 0 0 false)=.chan m.toNat #[] false 0 0 false:=by simp[Dq]
 revert h e;exact kz.1):p:=h ⟨k⟩
namespace Go.Pair
variable {K:Func}{L X:Array Event}{Own' Q b:gW}{T f:Tree}{assign body:Code}{cs z:List Frame}{l:Loc}{n u:Ren}{params:Array Tmp}
open Go Go.Conc
section
variable {k:Bool} {J:gW} {F:vr->gk->Prop} {l:Nat} {f:x8} {tmps:gY} {j:List pf} {Q:Exit->Act->gk->Prop} {a:Act} {g:Array ox} {b:hZ}
def Us{l}(W:¬J (.obj l)):∀e∈(#[⟨.obj l,sd,sd⟩,⟨.obj l,km,sd⟩]:Array Event),Ff J e:=λe N=>by
 simp at N;rcases N with rfl|rfl<;>exact Cl W
def SM{r}(h:Fe w l r)(Y:r.state=.ready):(do ru l;wy Next.skip:Sem Next).runT P w #[]=(.ok .skip (E4 w l { r with state:=.busy }),#[⟨.obj l,sd,sd⟩,⟨.obj l,km,sd⟩]):=by
 unfold Fe at h;simp[-sr,ru,o7,x9,zv,zq,vz,wy,yw,h,Y,zz,E4]
def CW{r}(h:Fe w l r):(Instr.endRound l jh).runT P w #[]=(.ok (gd km) (E4 w l { r with state:=.ready,pending:=jh }),#[⟨.obj l,sd,sd⟩,⟨.obj l,km,sd⟩]):=by
 unfold Fe at h;simp[-sr,Instr.endRound,o7,x9,zv,zq,vz,wy,yw,h,zz,E4]
def IX{r}(h:Fe w l r)(Y:r.state=.ready):(Instr.endLoop l).runT P w #[]=(.ok r.pending (E4 w l { r with state:=.exhausted }),#[⟨.obj l,sd,sd⟩,⟨.obj l,km,sd⟩]):=by
 unfold Fe at h;have e:(LoopState.ready==LoopState.busy)=sd:=iI;simp[-sr,Instr.endLoop,o7,x9,zv,zq,vz,wy,yw,h,Y, zz,E4]
def SO{r}(h:Fe w l r){as:gY}(s:as.size=r.params.size):(jl l as).runT P w #[]=(.ok (.round l r.fn ((r.params.zip as).foldl (λtmps(t,a)=>tmps.setIfInBounds t a) r.tmps) r.assign r.body) w,#[⟨.obj l,sd,sd⟩]):=by
 unfold Fe at h;simp[-sr,jl,o7,x9,zq,vz,wy,yw,h,s,zz]
def ZN{b}(h:w.1[b]?=lj (.deferred (lj []))):(ly b).runT P w #[]=(.ok [] { w with heap:=w.1.setIfInBounds b (.deferred jh) },#[⟨.obj b,sd,sd⟩,⟨.obj b,km,sd⟩]):=by
 simp[-sr,ly,x9,zv,zq,vz,wy,yw,h,zz]
def AV(params assign body):(vo f tmps params assign body jh).runT P w #[]=(.ok (iL w.1+1,[{ target:=.collected w.1.size,args:=#[] }]) { w with heap:=(w.1.push (.deferred (lj []))).push (.loop { state:=.ready,pending:=jh,fn:=f,tmps,params,assign,body,defers:=iL w.1 }) },#[]):=by
 simp[-sr,vo,Go.newObj,zq,vz,wy,yw]
def Lm{a}{s:Sem a}{B x}(h:s.runT P w #[]=(.ok x B,X)):s.run P w=.ok x B/\s.events P w #[]=X:=by
 simp_all
def EV.begin{r}(K:Fe v l r)(Y:r.state=.ready)(W:¬J (.obj l))(D:∀b,EV P k J F (G (Le l f tmps j) cs) (E4 (v.at b) l { r with state:=.busy })):EV P k J F (G (Le l f tmps (.beginRound::j)) cs) v:=by
 refine EV.sem iI (λn _=>CR l) λb=>?_;obtain⟨C,a⟩:=Lm (SM (show Fe (v.at b) l r from K) Y);refine⟨.skip,_,G _ cs,C,by rw[a];exact Us W,iI,λn w B p d=>?_,D b⟩;have d:(do ru _;wy Next.skip:Sem Next).run P w=.ok .skip B:=d;refine⟨seen P f _,?_,λe N=>yg N⟩;have H:stepG P k (G (Le (sh n l) f (tmps.map (Az n)) (.beginRound::j.map (Df n))) (cs.map (Bj n))) w=stepG.apply P km (Le (sh n l) f (tmps.map (Az n)) (.beginRound::j.map (Df n))) (cs.map (Bj n)) jh (do ru (sh n l);wy Next.skip) w:=by
  simp[G,stepG,stepG.exec,Le]
 have M:((Le (sh n l) f (tmps.map (Az n)) (.beginRound::j.map (Df n))).kind==ri)=sd:=iI;rw[Ep,U4,Ep,U4];rw[show oo _ _=.beginRound::j.map _ from iI,H];simp only[stepG.apply,sr,d,bQ,M];simp[GStep.after,G,Le,Frame.finish]
def EV.endRound{r c}(K:Fe v l r)(W:¬J (.obj l))(D:∀d,M P k J F (G (c.finish (gd km)) cs) (E4 (v.at d) l { r with state:=.ready,pending:=jh })):M P k J F (G (Le l f tmps []) (c::cs)) v:=by
 refine M.sem iI (λn _=>NO l jh) λd=>?_;obtain⟨C,a⟩:=Lm (CW (show Fe (v.at d) l r from K));refine⟨gd km,_,G _ cs,C,by rw[a];exact Us W,iI,λn w B p b=>?_,D d⟩;refine⟨seen P f _,?_,λe N=>yg N⟩;rw[Ep,U4,Ep,bC,←Mg];simp only[G,stepG,stepG.exec,Le,cM,sr,b,doReturn];simp[GStep.after]
def EV.endLoop{r}{b:Frame}(K:Fe v l r)(Y:r.state=.ready)(Q:r.pending=jh)(W:¬J (.obj l))(D:∀d,M P k J F (G (b.at a j) cs) (E4 (v.at d) l { r with state:=.exhausted })):M P k J F (G (b.at a (.endRangeFunc l::j)) cs) v:=by
 refine M.sem iI (λn _=>SH l) λd=>?_;obtain⟨C,c⟩:=Lm (IX (show Fe (v.at d) l r from K) Y);refine⟨jh,_,G _ cs,by rw[C,Q],by rw[c];exact Us W,iI,λn w B p e=>?_,D d⟩;refine⟨seen P b.fn _,?_,λf N=>yg N⟩;rw[Ep,Gn,Ep,Gn];simp only[G,stepG,stepG.exec,Frame.at,bC,Df,sr,e];simp[GStep.after]
def EV.taken{b:Frame}{c y}(e:a.defers = [{ target:=.collected y,args:=#[] }])(j:v.1[y]?=lj (.deferred (lj [])))(W:¬J (.obj y))(D:∀d,M P k J F (G { b.at { a with defers:=[] } c with mode:=.returning } cs) { v.at d with heap:=v.1.setIfInBounds y (.deferred jh) }):M P k J F (G { b.at a c with mode:=.returning } cs) v:=by
 refine M.sem (f:=λn=>oo (O5 n)) (t:=λn=>ly (sh n y)) iI (λn _=>X8 y) λd=>?_;obtain⟨C,i⟩:=Lm (P:=P) (ZN (show(v.at d).1[y]?=_ from j));refine⟨[],_,G { b.at { a with defers:=[] } c with mode:=.returning } cs,C,by rw[i];exact Us W,iI,λn w B p f=>?_,D d⟩;refine⟨seen P b.fn ((ly (sh n y)).events P w #[]),?_,λg N=>yg N⟩;have S:Bn n (G { b.at a c with mode:=.returning } cs)=G { b.at (Bw n a) (c.map (Df n)) with mode:=.returning } (cs.map (Bj n)):=rfl;have L:Bn n (G { b.at { a with defers:=[] } c with mode:=.returning } cs)=G { b.at { Bw n a with defers:=[] } (c.map (Df n)) with mode:=.returning } (cs.map (Bj n)):=rfl;have s:(Bw n a).defers = [{ target:=.collected (sh n y),args:=#[] }]:=by simp[Bw,e,O5,Wn]
 rw[S,L];simp only[G,stepG,unwind,Frame.at,s,sr,f];simp[GStep.after]
def EV.yield{r}{c:Frame}{f}(O:g[i]?=lj o)(A:qy o (iu g a.tmps)=km)(E:c.kind=.normal)(T:o.op=.call { callee:=.value f,args,argTypes:=m })(U:a.eval f=.func (.yield l) #[] #[])(K:Fe v l r)(s:args.size=r.params.size)(W:¬J (.obj l))(y:Eh P.globals.size f=km)(S:args.all (Eh P.globals.size)=km)(D:∀h,EV P k J F (G (Le l r.fn ((r.params.zip (args.map a.eval)).foldl (λtmps(t,x)=>tmps.setIfInBounds t x) r.tmps) [.code r.assign,.beginRound,.code r.body]) (c.at a (.inRegion g (i::b)::j)::cs)) (v.at h)):EV P k J F (G (c.at a (.inRegion g (i::b)::j)) cs) v:=by
 have Q:∀(a:Act)l,a.eval f=.func (.yield l) #[] #[]->execOp a.eval o=jl l (args.map a.eval):=λa l U=>by
  unfold execOp;rw[T]
  show((k9 (a.eval f) (args.map a.eval)) >>= λh=>lx h.target h.args)=_;rw[U]
  show lx (.fn (.yield l) #[]) (#[]++args.map a.eval)=_;rw[eD]
  rfl
 refine EV.sem (f:=λn=>NL n) (t:=λn=>jl (sh n l) ((args.map a.eval).map (Az n))) iI (λn _=>Aey l (args.map a.eval)) λh=>?_;obtain⟨C,u⟩:=Lm (P:=P) (SO (show Fe (v.at h) l r from K) (as:=args.map a.eval) (by simpa using s));refine⟨_,_,_,C,by rw[u];intro e N;simp at N;subst N;exact Cl W,iI,λn w B p d=>?_,D h⟩;refine⟨seen P c.fn ((jl (sh n l) ((args.map a.eval).map (Az n))).events P w #[]),?_,λe N=>yg N⟩;have q:=Q (Bw n a) (sh n l) (by rw[Hb p a f y,U];simp[Mq]);rw[Jg (λx Z=>Hb p a x Z) args S]at q;have z:qy o (iu g (Bw n a).tmps)=km:=by
  exact C0b
 have M:((c.at (Bw n a) (.inRegion g (i::b)::j.map (Df n))).kind==ri)=sd:=by show(c.kind==ri)=sd;rw[E];rfl
 rw[Ep,Gn,Ep];rw[show oo (Df n) (.inRegion g (i::b)::j)=.inRegion g (i::b)::j.map (Df n) from iI];rw[stepG_oper O z,q];have d:(jl (sh n l) ((args.map a.eval).map (Az n))).run P w=.ok (.round (sh n l) r.fn (((r.params.zip (args.map a.eval)).foldl (λtmps(t,x)=>tmps.setIfInBounds t x) r.tmps).map (Az n)) r.assign r.body) B:=d;simp only[stepG.apply,sr,d,bQ,M];simp[GStep.after,G,Le,Frame.round,Frame.at,Bj,Df,Jx,Bw]
def EV.enterLoop{b:Frame}{d c}{I:gY}{e}(E:b.kind=.normal)(U:a.eval d=.func (.func c) #[] I)(y:Eh P.globals.size d=km)(i:P.funcs[c]? = lj K)(s:(K.name == "runtime.NumGoroutine")=sd)(V:K.body=lj e)(D:∀f,EV P k J F (G ((base c).at { tmps:=(#[.func (.yield (v.heap.size+1)) #[] #[]]++I)++jj (K.ntmps - (#[rj (.yield (v.heap.size+1)) #[] #[]]++I).size) qp,defers:=[] } [.code e]) (b.at { a with defers:=[{ target:=.collected v.heap.size,args:=#[] }]++a.defers } (.inRangeFunc (v.heap.size+1) :: j) :: cs))
   {v.at f with heap:=(v.1.push (.deferred (lj []))).push (.loop { state:=.ready,pending:=jh,fn:=b.fn,tmps:=a.tmps,params,assign,body,defers:=v.1.size }) }):EV P k J F (G (b.at a (.code (.rangeFunc d params assign body) :: j)) cs) v:=by
 have o:K.body.isNone=sd:=by rw[V];rfl
 refine EV.sem (f:=λn=>ES n) (t:=λn=>vo b.fn (a.tmps.map (Az n)) params assign body jh) iI (λn _=>IU b.fn a.tmps params assign body) λf=>?_;obtain⟨C,m⟩:=Lm (P:=P) (AV (w:=v.at f) (f:=b.fn) (tmps:=a.tmps) params assign body);refine⟨_,_,_,C,by rw[m];simp,iI,λn w B p l=>?_,D f⟩;have l:(vo b.fn (a.tmps.map (Az n)) params assign body jh).run P w=.ok (sh n (v.1.size+1),[{ target:=.collected (sh n v.1.size),args:=#[] }]) B:=by
  have:ES n (v.1.size+1,[{ target:=.collected v.1.size,args:=#[] }])=(sh n (v.1.size+1),[{ target:=.collected (sh n v.1.size),args:=#[] }]):=by simp[ES,O5,Wn]
  rwa[←this]
 refine⟨seen P b.fn ((vo b.fn (a.tmps.map (Az n)) params assign body jh).events P w #[])++seen P b.fn #[],?_,λg N=>?_⟩
 ·have H:∀L(I:gY)w,(zo c (#[.func (.yield L) #[] #[]]++I)).runT P w #[]=(.ok (.enter c (#[.func (.yield L) #[] #[]]++I)) w,#[]):=λL I w=>by
   unfold zo
   show(match P.funcs[c]? with|none=>_|some fn=>_:Sem Next).runT P w #[]=_;rw[i];dsimp only;rw[s,o]
   rfl
  have h:∀L(I:gY)(X:Frame),X.eval d=.func (.func c) #[] I->(do let f ←resolve X.eval { callee:=.value d,args:=#[.const (.func (.yield L) #[] #[])],argTypes:=#[] } 0;lx f.target f.args:Sem Next)=zo c (#[.func (.yield L) #[] #[]]++I):=λL I X S=>by
   unfold resolve;have g:(#[Operand.const (.func (.yield L) #[] #[])].map X.eval)=#[.func (.yield L) #[] #[]]:=by simp[Frame.eval]
   simp only[g,S,k9]
   rfl
  have M:(b.kind == ri)=sd:=by rw[E];rfl
  have q:(Bw n a).eval d=.func (.func c) #[] (I.map (Az n)):=by rw[Hb p a d y,U];simp[Mq]
  have r:∀X:Frame,X.tmps=a.tmps.map (Az n)->X.eval d=.func (.func c) #[] (I.map (Az n)):=λX g=>by
   rw[←q];cases d <;> first|rfl|simp[Frame.eval,Act.eval,g,Bw]
  have N:Bj n ((base c).at { tmps:=(#[.func (.yield (v.1.size+1)) #[] #[]]++I)++jj (K.7 - (#[rj (.yield (v.1.size+1)) #[] #[]]++I).size) qp,defers:=[] } [.code e])=Frame.enter P c ((#[.func (.yield (sh n (v.1.size+1))) #[] #[]]++I.map (Az n))) .normal:=by
   rw[←enter_at _ i V,←J9];simp[Mq]
  show stepG P k (G (Bj n (b.at a (.code (.rangeFunc d params assign body) :: j))) (cs.map (Bj n))) w=.go (G (Bj n ((base c).at { tmps:=(#[.func (.yield (v.1.size+1)) #[] #[]]++I)++jj (K.7 - (#[rj (.yield (v.1.size+1)) #[] #[]]++I).size) qp,defers:=[] } [.code e])) (Bj n (b.at { a with defers:=[{ target:=.collected v.1.size,args:=#[] }]++a.defers } (.inRangeFunc (v.1.size+1) :: j)) :: cs.map (Bj n))) B _;rw[N,Gn,Gn];simp only[G,stepG,stepG.exec,Frame.at,bC,Df];rw[show(Bw n a).tmps=a.tmps.map (Az n) from iI];simp only[sr,l];rw[h _ _ _ (r _ iI)];obtain⟨Q,R⟩:=Lm (H (sh n (v.1.size+1)) (I.map (Az n)) B);simp only[stepG.apply,sr,Q,R,bQ,M];simp[GStep.after,Bw,O5,Wn]
 ·rcases cC.1 N with N|N
  ·exact yg N
  ·rw[qm]at N;simp at N
def RM{r n}{Post:gX}(O:g[i]?=lj o)(e:qy o (iu g a.tmps)=km)(T:o.op=.call { callee:=.value n,args,argTypes:=m })(U:a.eval n=.func (.yield l) #[] #[])(K:Fe w l r)(s:args.size=r.params.size)(W:¬J (.obj l))(y:Eh P.globals.size n=km)(S:args.all (Eh P.globals.size)=km)(f:∀d(c:Frame)cs,(∀B,Post B->EV P k J F (G (c.finish (gd km)) cs) B)->EV P k J F (G (Le l r.fn ((r.params.zip (args.map a.eval)).foldl (λtmps(t,x)=>tmps.setIfInBounds t x) r.tmps) [.code r.assign,.beginRound,.code r.body]) (c::cs)) (w.at d))(p:∀B,Post B->opsV P k J F fn g b Q (a.put o.dst (gd km)) B):opsV P k J F fn g (i::b) Q a w:=by
 intro q j z D E M;refine EV.yield O e E T U K s W y S λd=>f d _ z λB h=>?_;rw[Frame.finish_at,O];exact p B h q j z D E M
def EV.back{h c l B X}(S:l.defers = [])(I:P.funcs[h]?=lj K)(g:(rz K l.tmps).run P B=.ok x B)(b:∀d,(rz K l.tmps).run P (B.at d)=.ok x (B.at d))(r:∀d,(rz K l.tmps).events P (B.at d) #[]=#[])(D:M P k J F (G (X.finish x) z) B):M P k J F (G { (base h).at l c with mode:=.returning } (X::z)) B:=
 M.step iI λi d=>⟨_,B.at d,stepR_ret iI S iI I i (b d) (λe N=>by have N:e∈(rz K l.tmps).events P _ #[]:=N;grind),D.at d⟩
def DC{v h}{cap:gY}{c}(f:gk→Prop)(U:a.eval v=.func (.func h) #[] cap)(y:Eh P.globals.size v=km)(I:P.funcs[h]? = lj K)(s:(K.name == "runtime.NumGoroutine")=sd)(V:K.body=lj c)(g:∀tmps w,(rz K tmps).run P w=.ok (.tuple #[]) w)(x:∀tmps w,(rz K tmps).events P w #[]=#[])(m:∀d,Hp P k J F h c (λe l B=>(e=.normal∨e=.ret)∧l.defers = []∧f B) { tmps:=(#[.func (.yield (w.heap.size+1)) #[] #[]]++cap)++jj (K.ntmps - (#[rj (.yield (w.heap.size+1)) #[] #[]]++cap).size) qp,defers:=[] }
   {w.at d with heap:=(w.1.push (.deferred (lj []))).push (.loop { state:=.ready,pending:=jh,fn:=fn,tmps:=a.tmps,params,assign,body,defers:=w.1.size }) })(W:¬J (.obj (w.1.size+1)))(o:∀B,f B->∃r,Fe B (w.1.size+1) r/\r.state=.ready/\r.pending=jh/\∀d,Q .normal { a with defers:=[{ target:=.collected w.1.size,args:=#[] }]++a.defers } (E4 (B.at d) (w.1.size+1) { r with state:=.exhausted })):Hp P k J F fn (.rangeFunc v params assign body) Q a w:=by
 intro b j z D E M;subst D;refine EV.enterLoop E U y I s V λd=>?_;have p:∀i(l:Act)B,l.defers = []->f B->EV P k J F (G { (base h).at l i with mode:=.returning } (b.at { a with defers:=[{ target:=.collected w.1.size,args:=#[] }]++a.defers } (.inRangeFunc (w.1.size+1) :: j) :: z)) B:=λi l B S u=>by
  apply EV.back S I (g _ _) (λd=>g _ _) (λd=>x _ _)
  show EV P k J F (G (b.at { a with defers:=[{ target:=.collected w.1.size,args:=#[] }]++a.defers } (.endRangeFunc (w.1.size+1) :: j)) z) B;obtain⟨r,C,q,T,t⟩:=o B u;exact EV.endLoop C q T W λd=>M _ _ _ (t d)
 refine m d (base h) [] _ iI iI λe l B⟨N,S,u⟩=>?_;rcases N with rfl|rfl
 ·exact EV.ctl (p [] l B S u) iI iI λn H _=>vj (b:=base h) (a:=Bw n l)
 ·exact λi=>p i l B S u
def Y9{c}{args:gY}{d:uo→gk→Prop}{R:Array uo→uo}(I:P.funcs[f]? = lj K)(s:(K.name == "runtime.NumGoroutine")=sd)(V:K.body=lj c)(j:∀tmps w,(rz K tmps).run P w=.ok (R tmps) w)(r:∀tmps w,(rz K tmps).events P w #[]=#[])(m:Hp P k J F f c (λg a B=>(g=.normal∨g=.ret)∧∃y,a.defers = [{ target:=.collected y,args:=#[] }]∧B.heap[y]? = lj (.deferred (lj []))∧¬J (.obj y)∧∀e,d (R a.tmps) { B.at e with heap:=B.heap.setIfInBounds y (.deferred jh) }) { tmps:=args++jj (K.ntmps - args.size) qp,defers:=[] } w):Bg P k J F f args w d:=by
 refine⟨K,c,I,s,V,λX cs L o=>?_⟩;have i:∀b(a:Act)B,(∃y,a.defers = [{ target:=.collected y,args:=#[] }]/\B.1[y]? = lj (.deferred (lj []))/\¬J (.obj y)/\∀e,d (R a.tmps) { B.at e with heap:=B.1.setIfInBounds y (.deferred jh) })->EV P k J F (G { (base f).at a b with mode:=.returning } (X :: cs)) B:=by
  rintro b a B⟨y,S,D,l,Q⟩;exact EV.taken S D l λe=>EV.back iI I (j _ _) (λe=>j _ _) (λe=>r _ _) (o _ _ (Q e))
 refine m (base f) [] (X :: cs) iI iI λg h B⟨N,Q⟩=>?_;rcases N with rfl|rfl
 ·exact EV.ctl (i [] h B Q) iI iI λn H _=>vj (b:=base f) (a:=Bw n h) (cs:=(X :: cs).map (Bj n))
 ·exact λb=>i b h B Q
end
def Iu(v:gk):Loc->Prop
 |.cell a=>∃x,v.cell? a=lj x
 |.obj r=>∃o,v.1[r]?=lj o/\Cj o
 |_=>False
def My(B:Nat):Loc->Prop
 |.cell a=>a.block<B
 |.obj r=>r<B
 |_=>False
def BW(B:Nat):Loc->Prop
 |.cell a=>B<=a.block
 |.obj r=>B<=r
 |_=>False
def JR(Own:gW)(Cs:gV)(B:Nat)(e:Event):Prop:=
 match e.loc with
 |.cell a=>Own (.cell a)/\a.block<B
 |.obj r=>(Own (.obj r)∨(Cs r/\e.write=sd/\e.sync=km))/\r<B
 |.mark m=>Ajs m
 |_=>False
structure Di(P:im)(n)(J Own:gW)(g v w):Prop where
 sm:∀t,Sm n t J v w
 fix:n.Fix P.globals.size
 glob:P.globals.size<=iL v.1
 wf:Wf J g v
 own:∀l,Iu v l->¬J l->Own (Ge n l)
section
variable {k:Bool} {J Own:gW}
def Sm.less{t S}(h:Sm n t J v e)(R:S<=t):Sm n S J v e:=⟨λj l=>h.top j Aa,h.lt,h.out,h.4,h.tape,h.drawn,h.os,h.output⟩
def Di.at(a:Di P n J Own h v e)(d):Di P n J Own h (v.at d) (e.at d):=⟨λt=>(a.sm t).at d,a.fix,a.glob,a.wf.at d,a.own⟩
def Di.drawn(a:Di P n J Own h v e):=(a.sm 0).drawn
def Di.mono(a:Di P n J Own h v e)(H:∀l,Own l->Own' l):Di P n J Own' h v e:=⟨a.sm,a.fix,a.glob,a.wf,λl K b=>H _ (a.own l K b)⟩
def Ti(f:Dd v v' X)(W:Iu v' l):Iu v l∨BW v.1.size l:=by
 cases l with
 |cell a=>
  by_cases Y:a.block<iL v.1
  ·left
   obtain⟨x,Z⟩:=W;have O:v.1[a.block]?=lj v.1[a.block]:=aO Y
   show ∃x,v.cell? a=lj x;cases b:v.1[a.block] with
   |cells c e d=>
    rw[b]at O;obtain⟨B,C,J⟩:=f.row _ _ _ _ O;unfold ur at Z⊢
    grind
   |_=>
    exfalso;rw[b]at O;obtain⟨I,C,J⟩:=f.5 _ _ O (λ_ _ _ e=>HL);unfold ur at Z;rw[C]at Z;cases I with
    |cells c e d=>exact J.1 _ _ _ iI
    |_=>simp at Z
  ·exact kr (by show iL v.1<=a.block;omega)
 |obj r=>
  by_cases Y:r<iL v.1
  ·left
   obtain⟨I,C,J⟩:=W;have O:v.1[r]?=lj v.1[r]:=aO Y;refine⟨_,O,λc e d b=>?_⟩;rw[b]at O;obtain⟨B,T,_⟩:=f.row _ _ _ _ O;rw[C]at T;exact J _ _ _ (aB T)
  ·exact kr (by show iL v.1<=r;omega)
 |_=>exact W.elim
def Aif{t}(h:Sm n t J v e)(K:BW v.1.size l):BW e.1.size (Ge n l):=by
 cases l with
 |cell a=>exact h.out _ K
 |obj r=>exact h.out _ K
 |_=>exact K.elim
def No{t}(h:Sm n t J v e){l}(K:Iu v l):My e.1.size (Ge n l):=by
 cases l with
 |cell a=>
  have ⟨x,Z⟩:=K;exact h.lt _ (Ki Z)
 |obj r=>
  have ⟨o,O,_⟩:=K;exact h.lt _ (aG.1 O).1
 |_=>exact K.elim
def Di.step(a:Di P n J Own h v e)(s:Ha P k J h v g' v')(H:∀l,My e.1.size l->Own l->Own' l)(S:∀l,BW e.1.size l->Own' l):∃B X L,stepG P k (Bn n h) e=.go (Bn n g') B X/\Di P n J Own' g' v' B/\Dd e B L/\(∀b∈L,JR Own' (λx=>∃r,J (.obj r)/\x=sh n r) B.1.size b)/\∀b∈X,b∈L:=by
 obtain⟨B,X,L,C,y,T,q,p⟩:=s.all n v'.1.size e a.fix (aC _) (a.sm _);obtain⟨F,Q,_⟩:=s.frame;have u:∀t,Sm n t J v' B:=λt=>by
  obtain⟨E,m,w,f,i,_⟩:=s.all n (max t v'.1.size) e a.fix (Nat.le_max_right ..) (a.sm _);rw[C]at f;injection f with _ b _;subst b;exact i.less (Nat.le_max_left ..)
 have d:∀l,Iu v' l->¬J l->Own' (Ge n l):=λl K c=>by
  rcases Ti Q K with x|x
  ·exact H _ (No (a.sm 0) x) (a.own l x c)
  ·exact S _ (Aif (a.sm 0) x)
 refine⟨B,X,L.map (Ky n),C,⟨u,a.fix,aE a.glob Q.size,a.wf.step a.glob s,d⟩,T,λb N=>?_,p⟩;obtain⟨x,Z,rfl⟩:=Array.mem_map.1 N;obtain⟨K,c⟩:=q x Z;obtain⟨j,wr,Y⟩:=x;cases j with
 |cell g=>exact⟨d (.cell g) K c.cell,No (u 0) (l:=.cell g) K⟩
 |obj r=>
  obtain⟨o,O,z,_⟩:=K;refine⟨?_,No (u 0) (l:=.obj r) ⟨o,O,z⟩⟩;by_cases W:J (.obj r)
  ·exact kr ⟨⟨r,W,iI⟩,(c W).2.1,(c W).2.2⟩
  ·exact r7 (d (.obj r) ⟨o,O,z⟩ W)
 |mark A=>exact K
 |_=>exact K.elim
def Di.other(a:Di P n J Own h v e)(f:Dd e d L)(N:∀b∈L,b.write=km->My e.1.size b.loc->¬Own b.loc)(H:∀l,My e.1.size l->Own l->Own' l):∃D,Di P D J Own' h (v.at d.drawn) d/\Bn D h=Bn n h/\∀i,i<iL v.1->sh D i=sh n i:=by
 have j:=λg=>(a.sm 0).other a.wf (⟨λb Z W i k K⟨x,s⟩=>cH λc=>N b Z W (K▸No (a.sm 0) (l:=.cell (iD i k)) ⟨x,s⟩) (K▸a.own (.cell (iD i k)) ⟨x,s⟩ c),λb Z W i o K O M=>cH λc=>N b Z W (K▸No (a.sm 0) (l:=.obj i) ⟨o,O,M⟩) (K▸a.own (.obj i) ⟨o,O,M⟩ c)⟩) f g;have S:∀i,i<iL v.1->sh (n.grow v.1.size d.1.size ((a.sm 0).lt' f)) i=sh n i:=λi V=>Yl V;have m:∀l,Iu v l->Ge (n.grow v.1.size d.1.size ((a.sm 0).lt' f)) l=Ge n l:=λl K=>by
  cases l with
  |cell p=>
   have ⟨x,Z⟩:=K;simp only[Ge,Ei,S _ (Ki Z)]
  |obj r=>
   have ⟨o,O,_⟩:=K;simp only[Ge,S _ (aG.1 O).1]
  |_=>exact K.elim
 refine⟨_,⟨λg=>(j g).1,λi V=>?_,a.glob,a.wf.at _,λl K c=>?_⟩,(j 0).2,S⟩
 ·exact Geh
 ·have R:=K;rw[m l R];exact H _ (No (a.sm 0) R) (a.own l R c)
end
section
variable {p:gW} {N:Nat} {LA LB b f:gk->Loc->Bool->Prop} {u:wv} {a:Nat}
def Anh(t:wv)(g){l:List MemOp}(h:∀a∈l,∀m,a.act≠.mark m):∀d,l.foldl (deafStep g) d=d:=by
 induction l with
 |nil=>exact λ_=>rfl
 |cons y l O=>
  intro d;have U:=h y Ad;have b:deafStep g d y=d:=by
   have ⟨c,G,e,P⟩:=y;cases P<;>first|rfl|exact absurd iI (U _)
  grind
def Aid(af:0<k)(j:TI p k q N LA LB t e 0 0){c x y z v}(Z:x.g=k/\x.act=.send c s)(U:y.g=0/\y.act=.recv c s 0)(m:z.g=k/\z.act=.sendDone c s)(n:v.g=0/\v.act=.recvDone c s)(X:iL e.1<=iL d.1)(M:c<iL d.1):TI p k q N b f (t++#[x,y,z,v]) d 0 0:=by
 have K:∀a∈(#[x,y,z,v]:wv),a.act.touch? = jh/\(∀Y,a.act≠.mark Y)/\a.act.low d.1.size/\(a.g=0∨a.g=k):=λa T=>by
  simp at T;rcases T with rfl|rfl|rfl|rfl
  ·rw[Z.2];exact⟨iI,Ad,M,kr Z.1⟩
  ·rw[U.2];exact⟨iI,Ad,M,r7 U.1⟩
  ·rw[m.2];exact⟨iI,Ad,M,kr m.1⟩
  ·rw[n.2];exact⟨iI,Ad,M,r7 n.1⟩
 have E:∀g,Deaf (t++#[x,y,z,v]) g=Deaf t g:=λg=>p9 t g _ λa T=>⟨(K a T).2.1 .disable,(K a T).2.1 .enable⟩;have Q:(t++#[x,y,z,v])[t.size]?=lj x:=Ad;have R:(t++#[x,y,z,v])[t.size+1]?=lj y:=by rw[eE Aa];simp
 have V:(t++#[x,y,z,v])[t.size+2]?=lj z:=by rw[eE Aa];simp
 have w:(t++#[x,y,z,v])[t.size+3]?=lj v:=by rw[eE Aa];simp
 have l:∀g {a},a∈(#[x,y,z,v]:wv)->∀r,deafStep g r a=r:=λg a T r=>by
  have:=Anh t g (l:=[a]) (λD O=>by simp at O;subst O;exact(K _ T).2.1) r;simpa using this
 have F:∀g,(t++#[x,y,z,v]).deaf g t.size=Deaf t g:=λg=>deaf_old (aC _);have G:∀g,(t++#[x,y,z,v]).deaf g (t.size+1)=Deaf t g:=λg=>by rw[deaf_succ Q,l g Ad,F]
 have H:∀g,(t++#[x,y,z,v]).deaf g (t.size+2)=Deaf t g:=λg=>by rw[deaf_succ R,l g Ad,G]
 have a1:∀g,(t++#[x,y,z,v]).deaf g (t.size+3)=Deaf t g:=λg=>by rw[deaf_succ V,l g Ad,H]
 have I:∀i h,touchAt (t++#[x,y,z,v]) i=lj h->touchAt t i=lj h:=λi h B=>by
  obtain⟨D,O,S⟩:=touch_of B;rcases getElem?_append_cases O with⟨_,a6⟩|⟨_,a7⟩
  ·rwa[touchAt_of a6]
  ·rw[(K D a7).1]at S;cases S
 have a8:HappensBefore (t++#[x,y,z,v]) t.size (t.size+3):=
  .single (kr ⟨.handOver (c:=c) (k:=s) (by rw[act?_of Q,Z.2]) (by rw[act?_of w,n.2]),⟨k,by simp only[h9,Q,aI,Z.1],by rw[F];exact j.6⟩,⟨0,by simp only[h9,w,aI,n.1],by rw[a1];exact j.5⟩⟩)
 have A:∀{i g},t.g? i=lj g->Knows t g i:=λ{i g} hg=>by
  obtain⟨D,O,aa⟩:=bB.1 hg;have:=knows_own O
  rwa[aa]at this
 refine⟨λab=>?_,λi h B L=>?_,λi h B L=>?_,Qi j.over λa T=>(K a T).2.2.2.elim r7 λo=>kr (r7 o),(E 0).trans j.5,(E k).trans j.6,Ri j.seen X λa T=>(K a T).2.2.1⟩
 ·rintro⟨i,P,ad,⟨h,W,B,hb,ae⟩,J,u⟩;exact j.clean ab ⟨i,P,ad,⟨h,W,I i h B,I P W hb,ae⟩,λo=>J (hb_app _ o),λo=>u (hb_app _ o)⟩
 ·rcases j.2 i h (I i h B) L with C|C|⟨C,_⟩
  ·exact r7 (C.app _)
  ·exact kr (r7 C)
  ·exact r7 ⟨t.size+3,v,w,n.1,kr (((A C).hb_new (aC _) Q Z.1).trans a8)⟩
 ·rcases j.3 i h (I i h B) L with C|C|⟨C,_⟩
  ·exact r7 (C.app _)
  ·exact kr (r7 C)
  ·exact r7 ⟨t.size+2,z,V,m.1,kr (((A C).hb_new Aa R U.1).trans (.single (kr ⟨.room (c:=c) (k:=s) (cap:=0) (by rw[act?_of R,U.2]) (by rw[act?_of V,m.2];rfl),⟨0,by simp only[h9,R,aI,U.1],by rw[G];exact j.5⟩,⟨k,by simp only[h9,V,aI,m.1],by rw[H];exact j.6⟩⟩)))⟩
end
structure Mw where
 Shun:Loc->Prop
 k:Nat
 Wg:Nat
 Ch:Nat
 Ro:Loc->Prop
structure Mw.Ok(C:Mw):Prop where
 hk:0<C.k
 wgS:∀l,Gw C.Wg l->¬C.Shun l
 chS:¬C.Shun (.obj C.Ch)
 ro:∀l,C.5 l->¬Gw C.Wg l/\l≠.obj C.Ch/\¬C.Shun l
def Mw.A(C:Mw)(KB:gW)(l:Loc):Prop:=¬KB l/\¬C.5 l/\¬Gw C.Wg l/\l≠.obj C.Ch/\¬C.Shun l
def Mw.B(C:Mw)(KB:gW)(l:Loc):Prop:=KB l/\¬C.5 l/\¬Gw C.Wg l/\l≠.obj C.Ch/\¬C.Shun l
abbrev Mw.LA(C:Mw)(KB:gW):gk->Loc->Bool->Prop:=λ_ l x=>C.A KB l∨(x=sd/\C.5 l)
abbrev Mw.LB(C:Mw)(KB:gW):gk->Loc->Bool->Prop:=λ_ l x=>C.B KB l∨(x=sd/\C.5 l)
abbrev Mw.TI(C:Mw)(KB:gW)(t:wv)(w:gk)(dA dB:Nat):Prop:=Pair.TI C.Shun C.k C.Wg C.Ch (C.LA KB) (C.LB KB) t w dA dB
section
variable {C:Mw} {a:Nat}
def Mw.Ok.parts(O:C.Ok)(Q):DJ C.Shun C.Wg C.Ch (C.LA Q) (C.LB Q):=by
 refine⟨λ_ l x y h P=>?_,λ_ l x h=>(h.elim (λh=>h.2.2) λh=>O.ro _ h.2),λ_ l x h=>(h.elim (λh=>h.2.2) λh=>O.ro _ h.2),λ_ _ _ _ _ h=>h,λ_ _ _ _ _ h=>h,O.wgS,O.chS⟩
 ·rcases h with h|⟨rfl,h⟩<;>rcases P with P|⟨rfl,P⟩
  ·exact absurd P.1 h.1
  ·exact absurd P h.2.1
  ·exact absurd h P.2.1
  ·exact⟨iI,iI⟩
def Aad{B}{P:MemAct}{a}(h:P.touch? = lj a)(K:P.low B):a.loc.low B:=by
 unfold MemAct.touch? at h;split at h
 ·cases h;exact K
 ·cases h;exact K
 ·cases h;exact K
 ·cases h
def JI(h:C.TI Q t e a j)(s:iL e.1<=iL d.1)(p:∀l,l.low e.1.size->(Q l↔b l)):C.TI b t d a j:=by
 have k:∀i f,touchAt t i=lj f->f.loc.low e.1.size:=λi f g=>by
  have ⟨x,Z,B⟩:=touch_of g;exact Aad B (h.seen x (cF Z))
 refine⟨h.clean,λi f g L=>?_,λi f g L=>?_,h.over,h.5,h.6,λm T=>MemAct.low_mono s (h.seen m T)⟩
 ·rcases h.2 i f g L with c|c|⟨c,J⟩
  ·exact r7 c
  ·exact kr (r7 c)
  ·exact kr (kr ⟨c,J.imp (λx=>x.imp (λx=>⟨(p _ (k i f g)).1 x.1,x.2⟩) id) id⟩)
 ·rcases h.3 i f g L with c|c|⟨c,J⟩
  ·exact r7 c
  ·exact kr (r7 c)
  ·exact kr (kr ⟨c,J.imp (λx=>x.imp (λx=>⟨λy=>x.1 ((p _ (k i f g)).2 y),x.2⟩) id) id⟩)
def Vu{d B e}(h:JR d c B e){b}(D:(MemAct.ofEvent e).touch? = lj b):d b.loc∨∃r,b.loc=.obj r/\c r/\b.kind=.atomic:=by
 have ⟨l,wr,Y⟩:=e;cases l with
 |cell a=>
  have:b.loc=.cell a:=by cases wr<;>cases Y<;>simp[MemAct.ofEvent,MemAct.touch?]at D<;>subst D<;>rfl
  rw[this];exact r7 h.1
 |obj r=>
  have:b.loc=.obj r:=by cases wr<;>cases Y<;>simp[MemAct.ofEvent,MemAct.touch?]at D<;>subst D<;>rfl
  rcases h.1 with C|⟨C,J,T⟩
  ·grind
  ·refine kr ⟨r,this,C,?_⟩;subst J T;simp[MemAct.ofEvent,MemAct.touch?]at D;subst D
   rfl
 |mark m=>cases m<;>first|exact h.elim|(cases wr<;>cases Y<;>simp[MemAct.ofEvent,MemAct.touch?]at D)
 |_=>exact h.elim
def GO{B e}(h:JR b c B e):(MemAct.ofEvent e).low B:=by
 have ⟨l,wr,Y⟩:=e;cases l with
 |cell a=>cases wr<;>cases Y<;>exact h.2
 |obj r=>cases wr<;>cases Y<;>exact h.2
 |mark m=>cases m<;>first|exact h.elim|(cases wr<;>cases Y<;>trivial)
 |_=>exact h.elim
def Vt{a B e}(h:JR a c B e):e.loc≠.mark .disable/\e.loc≠.mark .enable:=by
 have ⟨l,wr,Y⟩:=e;cases l with
 |mark m=>cases m<;>first|exact h.elim|simp
 |_=>simp
def XK{B e}(h:JR b c B e)(a):MemAct.ofEvent e≠.mark (.release a):=by
 have ⟨l,wr,Y⟩:=e;cases l with
 |cell a=>cases wr<;>cases Y<;>simp[MemAct.ofEvent]
 |obj r=>cases wr<;>cases Y<;>simp[MemAct.ofEvent]
 |mark m=>cases m<;>first|exact h.elim|(cases wr<;>cases Y<;>simp[MemAct.ofEvent])
 |_=>exact h.elim
def OM(O:C.Ok)(h:C.TI Q t e a j)(s:iL e.1<=iL d.1)(N:∀c∈X,JR (C.A Q) (· = C.Ch) d.1.size c)(u b):C.TI Q (t++MemOp.ofEvents 0 u b X) d a j:=by
 refine TI.appA (O.parts Q) O.1 (JI h s λ_ _=>Iff.rfl) (.refl _) (λf T=>B9 T) (λf T i D _=>?_) ?_ (λf T=>?_)
 ·exact Z1t
 ·rw[xh,vi λc Z=>Vt (N c Z)];exact h.5
 ·obtain⟨c,Z,rfl⟩:=py T;exact GO (N c Z)
def Afv(O:C.Ok)(h:C.TI Q t e a j)(s:iL e.1<=iL d.1)(p:∀l,l.low e.1.size->(Q l↔b l))(N:∀c∈X,JR (C.B b) (· = C.Ch) d.1.size c)(u m):C.TI b (t++MemOp.ofEvents C.k u m X) d a j:=by
 refine TI.appB (O.parts b) O.1 (JI h s p) (.refl _) (λf T=>B9 T) (λf T i D _=>?_) ?_ (λf T=>?_)
 ·exact Z1t
 ·rw[xh,vi λc Z=>Vt (N c Z)];exact h.6
 ·obtain⟨c,Z,rfl⟩:=py T;exact GO (N c Z)
def Afu(O:C.Ok)(h:C.TI Q t e a j)(N:∀c∈X,∃b,c=⟨.cell b,sd,sd⟩/\C.5 (.cell b)/\b.block<iL e.1)(u g):C.TI Q (t++MemOp.ofEvents 0 u g X) e a j/\C.TI Q (t++MemOp.ofEvents C.k u g X) e a j:=by
 have d:∀c∈X,c.loc≠.mark .disable/\c.loc≠.mark .enable:=λc Z=>Aj
 constructor
 ·refine TI.appA (O.parts Q) O.1 h (.refl _) (λf T=>B9 T) (λf T i D _=>?_) ?_ (λf T=>?_)
  ·obtain⟨c,Z,rfl⟩:=py T;obtain⟨b,rfl,k,_⟩:=N c Z;simp[MemAct.ofEvent,MemAct.touch?]at D
   grind
  ·rw[xh,vi d];exact h.5
  ·exact X5d
 ·refine TI.appB (O.parts Q) O.1 h (.refl _) (λf T=>B9 T) (λf T i D _=>?_) ?_ (λf T=>?_)
  ·obtain⟨c,Z,rfl⟩:=py T;obtain⟨b,rfl,k,_⟩:=N c Z;simp[MemAct.ofEvent,MemAct.touch?]at D;subst D;exact r7 (kr ⟨iI,k⟩)
  ·rw[xh,vi d];exact h.6
  ·exact X5d
end
def M9(r:Nat):Loc->Prop
 |.cell a=>a.block=r
 |.obj i=>i=r
 |_=>False
def AY(n g x):mz (Bn n g) (Az n x)=Bn n (mz g x):=by
 unfold mz Bn;rw[show(Bj n g.frame).finish _=Bj n _ from Mg _ _]
def Va(n g):mz (Bn n g) qp=Bn n (mz g qp):=by
 unfold mz Bn;rw[show(Bj n g.frame).finish qp=Bj n _ from Ov _]
def Ren.ins(n k r W)(h:∀i,i<k->sh n i<W)(hr:r<W)(hn:∀i,i<k->sh n i≠r):Ren:=⟨λi=>if i<k then n.f i else if i=k then r else W+(i - k - 1),λ{i j} e=>by
 have a:=h i;have b:=h j;have c:=hn i;have d:=hn j;unfold sh at a b c d;by_cases h1:i<k
 ·by_cases h2:j<k
  ·rw[aL h1,aL h2]at e;exact n.inj e
  ·rw[aL h1,aM h2]at e;have:=a h1;have:=c h1;split at e<;>omega
 ·by_cases h2:j<k
  ·rw[aM h1,aL h2]at e;have:=b h2;have:=d h2;split at e<;>omega
  ·rw[aM h1,aM h2]at e;split at e<;>split at e<;>omega⟩
section
variable {k:Bool} {J Own:gW} {Bs:gV}
def H9:(Bb Bs v).1.size=iL v.1:=by unfold Bb;simp
def OB(k:RowsIn Bs v)(h:Iu (Bb Bs v) l):Iu v l/\∀i,Bs i->¬M9 i l:=by
 cases l with
 |cell a=>
  have ⟨x,Z⟩:=h;have z:¬Bs a.block:=λD=>by rw[Yi (Fy k) D]at Z;cases Z
  refine⟨⟨x,?_⟩,λi V e=>z (by have E:=e;rwa[E])⟩;have:=Tv (w:=v) (u:=Bb Bs v) z;rw[I3 k]at this;exact this.trans Z
 |obj r=>
  have ⟨o,O,M⟩:=h;have z:¬Bs r:=λD=>by
   have ⟨c,e,b,Y⟩:=k r D;rw[Bz,Y,aI,aL D]at O;obtain rfl:=aB O;exact M _ _ _ iI
  refine⟨⟨o,?_,M⟩,λi V e=>z (by rwa[e])⟩;rw[Bz]at O
  grind
 |_=>exact h.elim
def XU(h:¬M9 i l):¬M9 (sh n i) (Ge n l):=by
 cases l with
 |cell a=>exact λe=>h (Gq (n:=n) e)
 |obj r=>exact λe=>h (Gq (n:=n) e)
 |_=>exact id
def Di.hide(a:Di P n J Own h v e)(k:RowsIn Bs v)(G:Bn (.up v.1.size) g'=g')(H:∀l,Own l->(∀i,Bs i->¬M9 (sh n i) l)->Own' l):Di P n J Own' g' (Bb Bs v) e:=by
 refine⟨λt=>Sm.hide (Fy k) (by rw[I3 k];exact a.sm t),a.fix,by rw[H9];exact a.glob,⟨λi o O=>?_,by rwa[H9]⟩,λl K b=>?_⟩
 ·rw[H9];rw[Bz]at O;cases Y:v.1[i]? with
  |none=>grind
  |some p=>
   by_cases D:Bs i
   ·have ⟨d,f,g,M⟩:=k i D;rw[Y]at M;obtain rfl:=aB M;rw[Y,aI,aL D]at O;obtain rfl:=aB O;exact r7 (by simp[Sh,Dq])
   ·rw[Y,aI,aM D]at O;obtain rfl:=aB O;exact a.wf.mem i p Y
 ·have ⟨C,c⟩:=OB k K;exact H _ (a.own l C b) λi V=>XU (c i V)
def Di.give(a:Di P n J Own h v e){o s}(Y:e.1[r]?=lj s)(k:s=o∨∃B d A,o=oh #[] d A/\s=oh B d A)(z:∀i,i<iL v.1->sh n i≠r)(O:∀m,Dq m o=o)(G:Bn (.up (iL v.1+1)) g'=g')(H:∀l,Own l->Own' l)(g:∀l,M9 r l->Own' l):∃b,Di P b J Own' g' { v with heap:=v.1.push o } e/\sh b v.1.size=r/\∀i,i<iL v.1->sh b i=sh n i:=by
 let b:Ren:=n.ins v.1.size r e.1.size (a.sm 0).lt ((aG.1 Y).1) z
 have S:∀i,i<iL v.1->sh b i=sh n i:=λi V=>aL V;have L:sh b v.1.size=r:=by
  show(if iL v.1<iL v.1 then _ else if iL v.1=iL v.1 then r else _)=r;simp
 have F:∀i,iL v.1<i->sh b i=iL e.1+(i - iL v.1 - 1):=λi V=>by
  show(if i<iL v.1 then _ else if i=iL v.1 then r else _)=_
  grind
 have I:∀i p,({ v with heap:=v.1.push o }:gk).1[i]?=lj p->(i=iL v.1/\p=o)∨(i<iL v.1/\v.1[i]?=lj p):=λi p Q=>by
  have X:(v.1.push o)[i]?=lj p:=Q
  grind
 have u:({ v with heap:=v.1.push o }:gk).1.size=iL v.1+1:=Ad;have q:=a.sm 0;refine⟨b,⟨λt=>⟨λj _=>?_,λi V=>?_,λi V=>?_,λi p Q=>?_,q.tape,q.drawn,q.os,q.output⟩,λi V=>?_,by rw[u];exact Nat.le_succ_of_le a.glob,⟨λi p Q=>?_,by rwa[u]⟩,λl K R=>?_⟩,L,S⟩
 ·rw[u,F _ Aa];omega
 ·rw[u]at V
  grind
 ·rw[u]at V;rw[F i Aa];omega
 ·rcases I i p Q with⟨rfl,rfl⟩|⟨V,X⟩
  ·rw[L];rcases k with rfl|k
   ·exact⟨_,Y,r7 (O _).symm⟩
   ·exact⟨s,Y,kr (kr (kr (let⟨B,d,A,C,y⟩:=k;⟨B,d,A,C,y⟩)))⟩
  ·rw[S i V];obtain⟨s,C,y⟩:=q.4 i p X;exact⟨s,C,LikeO.ag (TY λi V=>(S i V).symm) (a.wf.mem i p X) y⟩
 ·exact Geh
 ·rw[u];rcases I i p Q with⟨rfl,rfl⟩|⟨V,X⟩
  ·exact r7 (O _).symm
  ·exact LikeO.ag (VU (cQ _)) (a.wf.mem i p X) (a.wf.mem i p X)
 ·have D:Iu v l∨M9 v.1.size l:=by
   cases l with
   |cell c=>
    obtain⟨x,Z⟩:=K;by_cases f:c.block=iL v.1
    ·exact kr f
    ·left
     refine⟨x,?_⟩;unfold ur at Z⊢
     rwa[show({ v with heap:=v.1.push o }:gk).1[c.block]?=v.1[c.block]? from by rw[show({ v with heap:=v.1.push o }:gk).1=v.1.push o from rfl,Vv,aM f]]at Z
   |obj i=>
    obtain⟨p,Q,M⟩:=K;rcases I i p Q with⟨rfl,_⟩|⟨_,X⟩
    ·exact kr iI
    ·exact r7 ⟨p,X,M⟩
   |_=>exact K.elim
  rcases D with D|D
  ·have:Ge b l=Ge n l:=by
    cases l with
    |cell c=>
     obtain⟨x,Z⟩:=D;simp only[Ge,Ei,S _ (Ki Z)]
    |obj i=>
     obtain⟨p,Q,_⟩:=D;simp only[Ge,S _ (aG.1 Q).1]
    |_=>exact D.elim
   rw[this];exact H _ (a.own l D R)
  ·apply g _;cases l with
   |cell c=>
    show sh b c.block=r
    rwa[show c.block=iL v.1 from D]
   |obj i=>
    show sh b i=r
    rwa[show i=iL v.1 from D]
   |_=>exact D.elim
end
structure Mw.RoR(C:Mw)(w w':gk):Prop where
 size:iL w.1<=iL w'.1
 cell:∀a:Addr,C.5 (.cell a)->a.block<iL w.1->w'.cell? a=w.cell? a
 row:∀(r:Nat)(c:gY)e(fz:Nat×Nat),w.1[r]?=lj (oh c e fz)->∃c',w'.1[r]?=lj (oh c' e fz)/\c'.size=c.size
 obj:∀r(o:Obj),C.5 (.obj r)->w.1[r]?=lj o->Cj o->w'.1[r]?=lj o
def Mw.RoR.refl{C:Mw}(w):C.RoR w w:=⟨aC _,λ_ _ _=>rfl,λ_ c _ _ h=>⟨c,h,iI⟩,λ_ _ _ h _=>h⟩
def Mw.RoR.trans{C:Mw}{a b c}(h:C.RoR a b)(P:C.RoR b c):C.RoR a c:=⟨aE h.size P.size,λx Z K=>(P.cell x Z (aA K h.size)).trans (h.cell x Z K),λr x e d Y=>by
 have ⟨N,S,l⟩:=h.row r x e d Y;have ⟨H,L,R⟩:=P.row r N e d S
 grind,λr o Y O z=>P.obj r o Y (h.obj r o Y O z) z⟩
def Mw.RoR.at{C:Mw}{a b}(h:C.RoR a b)(d):C.RoR a (b.at d):=⟨h.size,h.cell,h.row,h.obj⟩
def Wq{C:Mw}(O:C.Ok){B}(f:Dd w B L)(N:∀e∈L,Gw C.Wg e.loc∨e.loc=.obj C.Ch):C.RoR w B:=by
 refine⟨f.size,λa d K=>f.cell a K λe Z _ D=>?_,f.row,λr o Y b z=>f.obj r o b z λe Z _ D=>?_⟩
 ·rcases N e Z with h|h
  ·rw[D]at h;exact(O.ro _ d).1 h
  grind
 ·rcases N e Z with h|h
  ·have ⟨a,S,_⟩:=h
   grind
  ·rw[D]at h;exact(O.ro _ Y).2.1 h
structure M8 where
 L:Mw
 P:im
 ty:q9
 ChL:Nat
 WgL:Nat
 ChB:Nat
 WgB:Nat
 NA:Nat
 N0:Nat
 fA:Nat->Nat
 fB:Nat->Nat
 w0:gk
 low:Nat
 JA:Loc->Prop
 JB:Loc->Prop
 msgT:q9
 msgV:Nat->Array uo->uo
 FinA:vr->gk->Prop
 FinB:(Nat->Prop)->vr->gk->Prop
def M8.msgO(D:M8)(m:gY):Obj:=oh m D.16 (0,0)
structure M8.Ok(D:M8):Prop where
 lot:D.L.Ok
 neq:D.L.Wg≠D.L.Ch
 wgLow:D.L.Wg<D.low
 chLow:D.L.Ch<D.low
 shLow:∀l,D.L.Shun l->My D.low l
 roLow:∀l,D.L.5 l->My D.low l
 jb:∀i j,D.JB (.cell (iD i j))->i<D.9
 ja:D.JA (.obj D.4)
 jaO:∀r,D.JA (.obj r)->r=D.4
 jbO:∀r,D.JB (.obj r)->r=D.6
 msg:∀n i m,Az n (D.17 i m)=D.17 (sh n i) m
structure M8.AtRecv(D:M8)(z)(g:vr):Prop where
 run:g.status=.running
 comm:∀n(w:gk),n.Fix D.P.globals.size->stepG D.P km (Bn n g) w=.comm (core (Bn n g)) #[rcase (sh n D.4) z] km (.recv km) w #[]
structure M8.AtSend(D:M8)(i)(m:gY)(z)(g:vr):Prop where
 run:g.status=.running
 ints:m.map (Az .one)=m/\∀n,m.map (Az n)=m
 comm:∀n(w:gk),n.Fix D.P.globals.size->stepG D.P sd (Bn n g) w=.comm (core (Bn n g)) #[scase (sh n D.6) (D.17 (sh n i) m) z] km .send w #[]
def ScA(D:M8):List (Array uo)->vr->gk->Prop
 |[],g,v=>(∃z,D.AtRecv z g)/\D.18 g v
 |m::ms,g,v=>(∃z,D.AtRecv z g)/\M D.P km D.JA (ScA D ms) (mz (core g) (js #[D.17 v.1.size m,gd km])) { v with heap:=v.1.push (D.msgO m) }
def ScB(D:M8):List (Array uo)->(Nat->Prop)->vr->gk->Prop
 |[],S,g,v=>g.status=.running/\D.19 S g v
 |m::ms,S,g,v=>∃i z,D.AtSend i m z g/\(D.9<=i/\¬S i)/\v.1[i]?=lj (D.msgO m)/\M D.P sd D.JB (ScB D ms λj=>S j∨j=i) (mz (core g) qp) (Bb (· = i) v)
structure Gh(D:M8)(KB:gW)(ms)(S:gV)(TA TB n g v n' g' v')(w:gk)(t):Prop where
 lowW:D.low<=iL w.1
 kb:∀l,KB l->My w.1.size l
 sa:Di D.P n D.JA (D.L.A KB) g v w
 sb:Di D.P n' D.JB (D.L.B KB) g' v' w
 fa:FwT D.P km D.JA (ScA D ms) TA g v
 fb:FwT D.P sd D.JB (ScB D ms S) TB g' v'
 ca:D.4<iL v.1/\sh n D.4=D.L.Ch
 cb:D.6<iL v'.1/\sh n' D.6=D.L.Ch
 ga:D.5<iL v.1/\sh n D.5=D.L.Wg
 gb:D.7<iL v'.1/\sh n' D.7=D.L.Wg
 hN:D.9<=iL v'.1
 same:D.8<=iL v.1/\(∀i,i<D.8->sh n i=D.fA i)/\(∀i,i<D.9->sh n' i=D.fB i)/\D.L.RoR D.w0 w
 disj:∀i j,i<iL v.1->D.9<=j->j<iL v'.1->¬S j->sh n i≠sh n' j
 new:∀j,D.9<=j->j<iL v'.1->D.low<=sh n' j
 ti:D.L.TI KB t w 0 0
 ch:∃s tm,w.1[D.L.Ch]?=lj (.chan 0 #[] sd s s tm)
 wg:Dx D.ty D.L.Wg w KK 0
section
variable {D:M8} {i:Tree} {c:Ren}
def Pw(n g):core (Bn n g)=Bn n (core g):=iI
def VV{M m}(h:M<=m)(G:Bn (.up M) g=g):Bn (.up m) g=g:=by
 rw[←U2 (VU h) G,G]
def Ja{B G}(h:B<=G)(K:My B l):My G l:=by
 cases l with
 |cell a=>exact aA K h
 |obj r=>exact aA K h
 |_=>exact K
def Ee{B G}(h:B<=G){l}(K:My B l)(R:BW G l):False:=by
 cases l with
 |cell a=>have:a.block<B:=K;have:G<=a.block:=R;omega
 |obj r=>have:r<B:=K;have:G<=r:=R;omega
 |_=>exact K
def LO{B}(h:q<B)(K:Gw q l):My B l:=by
 obtain⟨a,rfl,e⟩:=K
 show a.block<B;omega
def Up(O:D.Ok){B}(k:D.low<=B)(K:BW B l):¬D.L.5 l/\¬Gw D.L.Wg l/\l≠.obj D.L.Ch/\¬D.L.Shun l:=
 ⟨λh=>Ee k (O.6 l h) K,λh=>Ee k (LO O.3 h) K,λh=>Ee k (show My D.low l by rw[h];exact O.4) K,λh=>Ee k (O.5 l h) K⟩
def DZ{B}(h:B<=r)(K:M9 r l):BW B l:=by
 cases l with
 |cell a=>show B<=a.block;have:a.block=r:=K;omega
 |obj i=>show B<=i;have:i=r:=K;omega
 |_=>exact K
def Gh.meet(O:D.Ok){m:gY}(q:Gh D Q (m::Z) S .leaf .leaf n g v c g' U e t){d}(M:e.1[D.L.Ch]?=lj (.chan 0 #[] sd s s d)){i h}(T:D.AtSend i m h g')(H:D.9<=i/\¬S i)(Y:U.1[i]?=lj (D.msgO m))(af:EV D.P sd D.JB (ScB D Z λo=>S o∨o=i) (mz (core g') qp) (Bb (· = i) U)){a f k b}(h1:a.g=D.L.k/\a.act=.send D.L.Ch s)(J:f.g=0/\f.act=.recv D.L.Ch s 0)(al:k.g=D.L.k/\k.act=.sendDone D.L.Ch s)(h4:b.g=0/\b.act=.recvDone D.L.Ch s):∃L ah ai I g2 u2 n3 g3 an,Gh D L Z (λo=>S o∨o=i) ah ai I g2 u2 n3 g3 an (e.setChan D.L.Ch 0 #[] sd (s+1) (s+1) d) (t++#[a,f,k,b]) /\
   mz (core (Bn n g)) (js #[D.17 (sh c i) m,gd km])=Bn I g2/\mz (core (Bn c g')) qp=Bn n3 g3:=by
 have r:i<iL U.1:=(aG.1 Y).1;have ad:=Hh M;have ao:∀o,o≠D.L.Ch->(e.setChan D.L.Ch 0 #[] sd (s+1) (s+1) d).1[o]?=e.1[o]?:=λo p=>Lz p;have aq:(e.setChan D.L.Ch 0 #[] sd (s+1) (s+1) d).1[D.L.Ch]?=lj (.chan 0 #[] sd (s+1) (s+1) d):=Uy ad;have C:(e.setChan D.L.Ch 0 #[] sd (s+1) (s+1) d).1.size=iL e.1:=by simp[World.setChan]
 have X:Dd e (e.setChan D.L.Ch 0 #[] sd (s+1) (s+1) d) #[⟨.obj D.L.Ch,km,km⟩]:=Li e M Am1 (.chan 0 #[] sd (s+1) (s+1) d) Am1 km iI;have z:∀(ag:gW),¬ag (.obj D.L.Ch)->∀j∈(#[⟨.obj D.L.Ch,km,km⟩]:Array Event),j.write=km->My e.1.size j.loc->¬ag j.loc:=λag q j N _ _=>by
  grind
 obtain⟨G,y,a1,W⟩:=q.sa.other (Own':=D.L.A Q) X (z _ λx=>x.2.2.2.1 iI) λ_ _ q=>q;obtain⟨nB,w,eB,R⟩:=q.sb.other (Own':=D.L.B Q) X (z _ λx=>x.2.2.2.1 iI) λ_ _ q=>q;generalize hW:e.setChan D.L.Ch 0 #[] sd (s+1) (s+1) d=E at *;have dA:E.drawn=v.drawn:=by rw[←hW];exact q.sa.drawn
 have dB:E.drawn=U.drawn:=by rw[←hW];exact q.sb.drawn
 rw[dA]at y;rw[dB]at w;have y:Di D.P G D.JA (D.L.A Q) g v E:=y;have w:Di D.P nB D.JB (D.L.B Q) g' U E:=w;obtain⟨o',hr,au⟩:=(w.sm 0).4 i _ Y;have ar:o'=D.msgO m∨∃B j fz,D.msgO m=oh #[] j fz/\o'=oh B j fz:=by
  rcases au with rfl|⟨b5,B,j,fz,P,a6,V,x4⟩|⟨_,x,_⟩|⟨B,j,fz,P,a6⟩
  ·left
   show Obj.cells (m.map (Az nB)) _ _=_;rw[T.ints.2 nB];rfl
  ·left
   unfold M8.msgO at P;injection P with y1 y2 y3;subst y1 y2 y3;rw[a6];unfold M8.msgO
   congr 1
   refine bX λo=>?_;rw[x4 o λp=>by have:=O.7 _ _ p;have:=H.1;omega,←aN,T.ints.2 nB]
  ·exact absurd iI (x _ _ _)
  ·exact kr ⟨B,j,fz,P,a6⟩
 let L:Loc->Prop:=λl=>Q l/\¬M9 (sh nB i) l
 obtain⟨⟨za,b6⟩,av⟩:=q.5.2 v.drawn;have aw:Bn (.up (iL v.1+1)) (mz (core g) (js #[D.17 v.1.size m,gd km]))=mz (core g) (js #[D.17 v.1.size m,gd km]):=by
  have e0:Bn (.up (iL v.1+1)) (core g)=core g:=by
   rw[←Pw,VV (cQ _) q.sa.wf.2]
  have e1:Az (.up (iL v.1+1)) (js #[D.17 v.1.size m,gd km])=js #[D.17 v.1.size m,gd km]:=by
   simp[Az,O.msg,Im (gC v.1.size)]
  rw[←AY,e0,e1]
 obtain⟨I,am,er,A⟩:=y.give (Own':=D.L.A L) hr ar (λo p=>by rw[W o p,R i r];exact q.disj o i p H.1 r H.2) (λa7=>by show Obj.cells (m.map (Az a7)) _ _=_;rw[T.ints.2 a7];rfl) aw (λl K=>⟨λx=>K.1 x.1,K.2⟩) λl K=>⟨λx=>x.2 K,Up O (aC _) (DZ (by rw[R i r];exact q.new i H.1 r) K)⟩
 have as:Bn (.up U.1.size) (mz (core g') qp)=mz (core g') qp:=by
  rw[←Va,←Pw,q.sb.wf.2]
 obtain⟨ah,ax⟩:=av (Tf (v:=v) q.5.1 trivial);obtain⟨ai,ap⟩:=af λo b7 F=>by
  rw[Bz]at F;cases p:U.1[o]? with
  |none=>rw[p]at F;cases F
  |some a8=>
   have aa:=q.6.1 o a8 p;rw[p,aI]at F;obtain rfl:=aB F;split
   ·cases a8<;>first|exact aa|exact trivial
   ·exact aa
 refine⟨L,ah,ai,I,_,_,nB,_,_,⟨by rw[C];exact q.1,λl K=>by rw[C];exact q.kb l K.1,am,(w.hide (Bs:=(· = i)) (g':=mz (core g') qp) (Own':=D.L.B L) (λo p=>by subst p;exact⟨_,_,_,Y⟩) as λl K ay=>⟨⟨K.1,ay i iI⟩,K.2⟩),ax,ap,⟨by simp;have:=q.ca.1;omega,by rw[A _ q.ca.1,W _ q.ca.1];exact q.ca.2⟩,⟨by rw[H9];exact q.cb.1,by rw[R _ q.cb.1];exact q.cb.2⟩,⟨by simp;have:=q.ga.1;omega,by rw[A _ q.ga.1,W _ q.ga.1];exact q.ga.2⟩,⟨by rw[H9];exact q.gb.1,by rw[R _ q.gb.1];exact q.gb.2⟩,?_,⟨by simp;have:=q.same.1;omega,λo p=>by rw[A o (aA p q.same.1),W o (aA p q.same.1)];exact q.same.2.1 o p,λo p=>by rw[R o (aA p q.hN)];exact q.same.2.2.1 o p,q.same.2.2.2.trans (Wq O.1 X λj N=>by simp at N;subst N;exact kr iI)⟩,λu ab ha hb aj hS=>?_,λo p ak=>?_,(Aid O.1.1 q.ti h1 J al h4 (by rw[C];exact aC _) (by rw[C];exact ad)),⟨s+1,d,aq⟩,?_⟩,?_,?_⟩
 ·rw[H9];exact q.hN
 ·rw[H9]at aj;rw[R ab aj];have b8:u<iL v.1+1:=by simpa using ha
  rcases Nat.lt_or_ge u v.1.size with x|x
  ·rw[A u x,W u x];exact q.disj u ab x hb aj λaz=>hS (r7 az)
  ·obtain rfl:u=iL v.1:=Aa;rw[er,R i r];exact λj=>hS (kr (Gq j).symm)
 ·rw[H9]at ak;rw[R o ak];exact q.new o p ak
 ·have j:E.1[D.L.Wg]?=e.1[D.L.Wg]?:=ao _ O.neq;have ae:=q.wg;unfold Dx at ae⊢;exact j.trans ae
 ·rw[←AY]
  congr 1
  ·rw[Pw,←U2 (g:=core g) (TY (M:=iL v.1) λo p=>((W o p).symm.trans (A o p).symm)) (by rw[←Pw,q.sa.wf.2])]
  ·simp[Az,O.msg,er];rw[R i r]
 ·rw[←Va,←Pw,eB]
end
def Mw.DRo(C:Mw)(w w':gk)(es:Array Event):Prop:=w'=w/\∀e∈es,∃a,e=⟨.cell a,sd,sd⟩/\C.5 (.cell a)/\a.block<iL w.1
def Nc{B e}(h:JR b c B e)(W:e.write=km):(b e.loc/\My B e.loc)∨∃m,e.loc=.mark m:=by
 have ⟨l,wr,Y⟩:=e;cases l with
 |cell a=>exact r7 h
 |obj r=>
  rcases h.1 with C|⟨_,J,_⟩
  ·exact r7 ⟨C,h.2⟩
  grind
 |mark m=>exact kr ⟨m,iI⟩
 |_=>exact h.elim
def QH{d b B e}(h:JR d c B e)(j:∀r,c r->b r):JR d b B e:=by
 have ⟨l,wr,Y⟩:=e;cases l with
 |cell a=>exact h
 |obj r=>exact⟨h.1.imp id λx=>⟨j _ x.1,x.2⟩,h.2⟩
 |mark m=>exact h
 |_=>exact h.elim
def Ab9{a B e}(h:JR b c B e)(H:∀l,b l->My B l->a l):JR a c B e:=by
 have ⟨d,wr,Y⟩:=e;cases d with
 |cell f=>exact⟨H _ h.1 h.2,h.2⟩
 |obj r=>exact⟨h.1.imp (λx=>H _ x h.2) id,h.2⟩
 |mark m=>exact h
 |_=>exact h.elim
section
def XP(f:Dd e d X){c:gY}{a b}(h:e.1[r]?=lj (oh c a b))(z:∀x∈X,x.write=km->∀j,x.loc≠.cell (iD r j)):d.1[r]?=lj (oh c a b):=by
 have ⟨B,C,J⟩:=f.row _ _ _ _ h;rw[C]
 congr 2
 refine bX λj=>?_;rw[←Ci C j,←Ci h j];exact f.cell (iD r j) (aG.1 h).1 λx Z W=>z x Z W j
end
section
variable {D:M8} {i:Tree} {c:Ren}
def stays(O:D.Ok){c B}(g:Dd e d L)(N:∀f∈L,JR b c B f)(H:∀l,b l->¬D.L.5 l/\¬Gw D.L.Wg l/\l≠.obj D.L.Ch/\¬D.L.Shun l):D.L.RoR e d/\(∀{i sm},Dx D.ty D.L.Wg e i sm->Dx D.ty D.L.Wg d i sm)/\∀{o},e.1[D.L.Ch]?=lj o->Cj o->d.1[D.L.Ch]?=lj o:=by
 refine⟨⟨g.size,λj k K=>g.cell j K λf Z W K=>?_,g.row,λr o Y h M=>g.obj r o h M λf Z W K=>?_⟩,λ{i sm} G=>?_,λ{o} h M=>g.obj _ _ h M λf Z W K=>?_⟩
 ·rcases Nc (N f Z) W with⟨a,_⟩|⟨m,a⟩
  ·grind
  grind
 ·rcases Nc (N f Z) W with⟨a,_⟩|⟨m,a⟩
  ·grind
  grind
 ·unfold Dx at G⊢;unfold JK at G⊢;refine XP g G λf Z W n K=>?_;rcases Nc (N f Z) W with⟨a,_⟩|⟨m,a⟩
  ·rw[K]at a;exact(H _ a).2.1 ⟨_,iI,iI⟩
  grind
 ·rcases Nc (N f Z) W with⟨a,_⟩|⟨m,a⟩
  ·rw[K]at a;exact(H _ a).2.2.1 iI
  ·rw[K]at a;cases a
def Gh.stepA(O:D.Ok){f:Nat->Tree}(q:Gh D Q Z S (.node f) i n h v c R U e t)(fn aa):∃d X a G j,stepG D.P km (Bn n h) e=.go (Bn n a) d X/\Gh D Q Z S (f v.drawn) i n a G j R (U.at d.drawn) d (t++MemOp.ofEvents 0 fn aa X)/\Bn j R=Bn c R/\D.L.RoR e d:=by
 obtain⟨hp,A,ab⟩:=q.5;obtain⟨a,G,m,p⟩:=ab v.drawn;obtain⟨d,X,L,C,J,T,u,ad⟩:=q.sa.step m (Own':=D.L.A Q) (λ_ _ q=>q) λl K=>⟨λw=>Ee (aC _) (q.kb l w) K,Up O q.1 K⟩;replace u:∀b∈L,JR (D.L.A Q) (· = D.L.Ch) d.1.size b:=λb N=>QH (u b N) λx⟨r,Y,y⟩=>by rw[y,O.9 r Y];exact q.ca.2
 obtain⟨j,z,ae,E⟩:=q.sb.other (Own':=D.L.B Q) T (λb N W H I=>by
  rcases Nc (u b N) W with⟨x,_⟩|⟨af,x⟩
  ·exact x.1 I.1
  ·rwa[x]at H) λ_ _ q=>q
 obtain⟨B,F,M⟩:=stays O T u λl K=>K.2;obtain⟨e0,o,_⟩:=m.frame;obtain⟨s,a1,a6⟩:=q.ch;refine⟨d,X,a,G,j,C,⟨aE q.1 T.size,λl K=>Ja T.size (q.kb l K),J,z,p,q.6.at _,⟨aA q.ca.1 o.size,q.ca.2⟩,⟨q.cb.1,by rw[E _ q.cb.1];exact q.cb.2⟩,⟨aA q.ga.1 o.size,q.ga.2⟩,⟨q.gb.1,by rw[E _ q.gb.1];exact q.gb.2⟩,q.hN,⟨aE q.same.1 o.size,q.same.2.1,λg V=>by rw[E g (aA V q.hN)];exact q.same.2.2.1 g V,q.same.2.2.2.trans B⟩,λg k V a7 P a8=>?_,λk a7 P=>?_,OM O.1 q.ti T.size (λb N=>u b (ad b N)) _ _,⟨s,a1,M a6 λ_ _ _ b=>Af6⟩,F q.wg⟩,ae,B⟩
 ·rw[E k P];by_cases ah:g<iL v.1
  ·exact q.disj g k ah a7 P a8
  ·have:=(q.sa.sm 0).out g Aa;have:=(q.sb.sm 0).lt k P;omega
 ·have P:k<iL U.1:=P;rw[E k P];exact q.new k a7 P
def Gh.stepB(O:D.Ok){a:Nat->Tree}(q:Gh D Q Z S f (.node a) n h v c R U e t)(I P):∃d X L i G k,stepG D.P sd (Bn c R) e=.go (Bn c i) d X/\Gh D L Z S f (a U.drawn) k h (v.at d.drawn) c i G d (t++MemOp.ofEvents D.L.k I P X)/\Bn k h=Bn n h/\D.L.RoR e d:=by
 obtain⟨hp,ak,Y⟩:=q.6;obtain⟨i,G,m,a7⟩:=Y U.drawn;have m:Ha D.P sd D.JB R U i G:=m;obtain⟨d,X,z,C,J,T,p,a8⟩:=q.sb.step m (Own':=D.L.B λl=>Q l∨BW e.1.size l) (λ_ _ q=>⟨r7 q.1,q.2⟩) λl K=>⟨kr K,Up O q.1 K⟩;replace p:∀b∈z,JR (D.L.B λl=>Q l∨BW e.1.size l) (· = D.L.Ch) d.1.size b:=λb N=>QH (p b N) λx⟨r,aa,ab⟩=>by rw[ab,O.10 r aa];exact q.cb.2
 let L:Loc->Prop:=λl=>Q l∨(BW e.1.size l/\My d.1.size l)
 have u:∀b∈z,JR (D.L.B L) (· = D.L.Ch) d.1.size b:=λb N=>Ab9 (p b N) λl K w=>⟨K.1.imp id λx=>⟨x,w⟩,K.2⟩;have ad:Di D.P c D.JB (D.L.B L) i G d:=⟨J.sm,J.fix,J.glob,J.wf,λl K A=>by
  have:=J.own l K A;exact⟨this.1.imp id λx=>⟨x,No (J.sm 0) K⟩,this.2⟩⟩
 obtain⟨k,hA,eA,W⟩:=q.sa.other (Own':=D.L.A L) T (λb N w E B=>by
  rcases Nc (p b N) w with⟨x,_⟩|⟨al,x⟩
  ·exact x.1.elim B.1 λae=>Ee (aC _) E ae
  ·rwa[x]at E) λl K B=>⟨λx=>x.elim B.1 λx=>Ee (aC _) K x.1,B.2⟩
 obtain⟨H,F,M⟩:=stays O T u λl K=>K.2;obtain⟨e0,o,_⟩:=m.frame;obtain⟨s,a1,a6⟩:=q.ch;have af:∀l:Loc,l.low e.1.size->(Q l↔L l):=λl K=>⟨r7,λx=>x.elim id λx=>by
  cases l with
  |cell ah=>exact(Ee (aC _) (l:=.cell ah) K x.1).elim
  |obj r=>exact(Ee (aC _) (l:=.obj r) K x.1).elim
  |_=>exact x.1.elim⟩
 refine⟨d,X,L,i,G,k,C,⟨aE q.1 T.size,λl K=>K.elim (λK=>Ja T.size (q.kb l K)) λK=>K.2,hA,ad,q.5.at _,a7,⟨q.ca.1,by rw[W _ q.ca.1];exact q.ca.2⟩,⟨aA q.cb.1 o.size,q.cb.2⟩,⟨q.ga.1,by rw[W _ q.ga.1];exact q.ga.2⟩,⟨aA q.gb.1 o.size,q.gb.2⟩,aE q.hN o.size,⟨q.same.1,λg V=>by rw[W g (aA V q.same.1)];exact q.same.2.1 g V,q.same.2.2.1,q.same.2.2.2.trans H⟩,λg j V A ai aj=>?_,λj A ai=>?_,Afv O.1 q.ti T.size af (λb N=>u b (a8 b N)) _ _,⟨s,a1,M a6 λ_ _ _ b=>Af6⟩,F q.wg⟩,eA,H⟩
 ·have V:g<iL v.1:=V;rw[W g V];by_cases y:j<iL U.1
  ·exact q.disj g j V A y aj
  ·have:=(q.sb.sm 0).out j Aa;have:=(q.sa.sm 0).lt g V;omega
 ·by_cases y:j<iL U.1
  ·exact q.new j A y
  ·have:=(q.sb.sm 0).out j Aa;have:=q.1;omega
end
abbrev MuP:=Nat×(Tree×(Tree×(Nat×Nat)))
abbrev Rv:MuP->MuP->Prop:=Prod.Lex (· < ·) (Prod.Lex Tree.Sub (Prod.Lex Tree.Sub FY))
def Adf:WellFounded Rv:=(Prod.lex ⟨_,Nat.lt_wfRel.wf⟩ (Prod.lex ⟨_,Tree.wf⟩ (Prod.lex ⟨_,Tree.wf⟩ ⟨_,Ahf⟩))).wf
def YD(k:Nat)(TA TB:Tree)(r:Nat):MuP:=(k+2,TA,TB,(0,r))
def UW{E j D}(h:r<D):Rv (YD k E j r) (YD k E j D):=.right _ (.right _ (.right _ (.right _ h)))
def Adl{x E j D}(h:Rv x (YD k E j r))(Y:r<=D):Rv x (YD k E j D):=by
 cases h with
 |left _ _ h=>exact .left _ _ h
 |right _ h=>
  refine .right _ ?_
  grind
section
variable (D:M8)
def Sd(T:Tree)(ra:Nat)(n:Ren)(g a:vr)(w:gk):Prop:=
 (ra=1/\a=Bn n g)∨(ra=0/\T=.leaf/\∃z,a=parked (core (Bn n g)) #[rcase D.L.Ch z] (.recv km))∨∃m,ra=m+2/\o2 D.P km D.L.RoR D.L.DRo (λx _=>x=Bn n g/\g.status=.running) m a w
def X2(ms:List (Array uo))(T:Tree)(rb:Nat)(n:Ren)(g b:vr)(w:gk):Prop:=
 (rb=1/\b=Bn n g)∨(rb=0/\T=.leaf/\ms≠[]/\∃x z,b=parked (core (Bn n g)) #[scase D.L.Ch x z] .send/\∃w,stepG D.P sd (Bn n g) w=.comm (core (Bn n g)) #[scase D.L.Ch x z] km .send w #[])∨∃m,rb=m+2/\o2 D.P sd D.L.RoR D.L.DRo (λx _=>x=Bn n g/\g.status=.running) m b w
def Open(ms:List (Array uo))(TA TB:Tree)(ra rb:Nat)(a b:vr)(w:gk)(t:wv):Prop:=
 ∃KB S n g v n' g' v',Gh D KB ms S TA TB n g v n' g' v' w t/\Sd D TA ra n g a w/\X2 D ms TB rb n' g' b w/\¬(ra=0/\rb=0)
end
section
variable {D:M8} {i:Tree} {c:Ren}
def Gh.runA(a:Gh D Q Z S f i n h v c R U w t):h.status=.running:=by
 cases f with
 |node b=>exact a.5.2.1
 |leaf=>
  have:=a.5.2 v.drawn;cases Z with
  |nil=>have ⟨⟨z,N⟩,_⟩:=this;exact N.run
  |cons m Z=>have ⟨⟨z,N⟩,_⟩:=this;exact N.run
def Gh.runB(a:Gh D Q Z S f i n h v c R U w t):R.status=.running:=by
 cases i with
 |node b=>exact a.6.2.1
 |leaf=>
  have:=a.6.2 U.drawn;cases Z with
  |nil=>exact this.1
  |cons m Z=>have ⟨d,z,N,_⟩:=this;exact N.run
def Gh.atA(a:Gh D Q Z S .leaf i n h v c R U w t):∃z,D.AtRecv z h:=by
 have:=a.5.2 v.drawn;cases Z with
 |nil=>exact this.1
 |cons m Z=>exact this.1
def Sd.status(Y:h.status=.running)(b:Sd D T I n h a w):(a.status=.running/\I≠0)∨(a.status=.blocked/\I=0):=by
 rcases b with⟨rfl,rfl⟩|⟨rfl,_,z,rfl⟩|⟨m,rfl,G⟩
 ·exact r7 ⟨Y,Aa⟩
 ·exact kr ⟨iI,iI⟩
 ·exact R5y
def X2.status(Y:h.status=.running)(b:X2 D Z T rb n h E w):(E.status=.running/\rb≠0)∨(E.status=.blocked/\rb=0):=by
 rcases b with⟨rfl,rfl⟩|⟨rfl,_,_,x,z,rfl,_⟩|⟨m,rfl,G⟩
 ·exact r7 ⟨Y,Aa⟩
 ·exact kr ⟨iI,iI⟩
 ·exact R5y
def Sd.woken(Y:h.status=.running)(c:Sd D T I n h a w){P b}(M:d.1[D.L.Ch]?=lj (.chan 0 #[] sd s r b))(x e):woken P x e d a=a:=by
 rcases c with⟨rfl,rfl⟩|⟨rfl,_,z,rfl⟩|c
 ·exact Dz (r7 Y)
 ·exact woken_recv_open _ _ M
 ·rcases Sd.status Y (kr (kr c):Sd D T I n h a w) with⟨C,_⟩|⟨_,C⟩
  ·exact Dz (r7 C)
  omega
def X2.woken(Y:h.status=.running)(b:X2 D Z T rb n h E w){P a}(M:d.1[D.L.Ch]?=lj (.chan 0 #[] sd s r a))(x c):woken P x c d E=E:=by
 rcases b with⟨rfl,rfl⟩|⟨rfl,_,_,y,z,rfl,_⟩|b
 ·exact Dz (r7 Y)
 ·exact woken_send_open _ _ M
 ·rcases X2.status Y (kr (kr b):X2 D Z T rb n h E w) with⟨C,_⟩|⟨_,C⟩
  ·exact Dz (r7 C)
  omega
def Sd.keep(b:Sd D T I n h a w)(e:Bn u h=Bn n h)(Y:D.L.RoR w d):Sd D T I u h a d:=by
 unfold Sd;exact Dwv
def X2.keep(b:X2 D Z T rb n h E w)(e:Bn u h=Bn n h)(Y:D.L.RoR w d):X2 D Z T rb u h E d:=by
 unfold X2;exact Dwv
def Gh.at(a:Gh D Q Z S f i n h v c R U w t)(d):Gh D Q Z S f i n h (v.at d) c R (U.at d) (w.at d) t:=
 ⟨a.1,a.kb,a.sa.at d,a.sb.at d,a.5.at d,a.6.at d,a.ca,a.cb,a.ga,a.gb,a.hN,⟨a.same.1,a.same.2.1,a.same.2.2.1,a.same.2.2.2.at d⟩,a.disj,a.new,JI a.ti (aC _) λ_ _=>Iff.rfl,a.ch,a.wg⟩
def Gh.ti'(b:Gh D Q Z S f i n h v c R U w t){a}(d:D.L.TI Q a w 0 0):={ b with ti:=d }
def Open.at(b:Open D Z f i I rb a E w t)(d):Open D Z f i I rb a E (w.at d) t:=by
 have ⟨Q,S,n,h,v,c,R,U,p,B,Y,nb⟩:=b;exact⟨Q,S,n,h,_,c,R,_,p.at d,B.keep iI ((Mw.RoR.refl _).at d),Y.keep iI ((Mw.RoR.refl _).at d),nb⟩
def Ac6{a x b l cs d c J s W}{w2 H:gk}{G}(h:stepG P a x w=.comm b cs c s H X)(f:stepG P a x w=.comm l d J W e G):cs=d:=by
 grind
def Gh.meets(O:D.Ok)(e:Gh D Q Z S .leaf .leaf n h v c R U w t)(g:Z≠[]){b r}(V:stepG D.P sd (Bn c R) r=.comm (core (Bn c R)) #[scase D.L.Ch x b] km .send r #[]){d}(M:w.1[D.L.Ch]?=lj (.chan 0 #[] sd s s d)){m1 m2 m3 m4}(C:m1.g=D.L.k/\m1.act=.send D.L.Ch s)(J:m2.g=0/\m2.act=.recv D.L.Ch s 0)(A:m3.g=D.L.k/\m3.act=.sendDone D.L.Ch s)(q:m4.g=0/\m4.act=.recvDone D.L.Ch s):∃y l T,iK y<iK Z/\Open D y l T 1 1 (mz (core (Bn n h)) (js #[x,gd km])) (mz (core (Bn c R)) qp) (w.setChan D.L.Ch 0 #[] sd (s+1) (s+1) d) (t++#[m1,m2,m3,m4]):=by
 cases Z with
 |nil=>exact absurd iI g
 |cons m Z=>
  have ⟨i,G,I,K,P,F⟩:=e.6.2 U.drawn;have f:=Ac6 (w2:=r) V (I.comm c r e.sb.fix);have Y:x=D.17 (sh c i) m:=by
   simp only[scase,fV,dP,CommCase.mk.injEq,aT]at f;exact f.1.2.1
  have ⟨L,W,j,u,o,B,a,k,E,p,H,z⟩:=e.meet O M I K P F C J A q;exact⟨Z,W,j,gC _,L,_,u,o,B,a,k,E,p,r7 ⟨iI,by rwa[Y]⟩,r7 ⟨iI,z⟩,Aa⟩
end
section
def StepA.mono{K F:vr->vr->gk->wv->Prop}(h:StepA P k a E e t K)(p:∀a E e t,K a E e t->F a E e t):StepA P k a E e t F:=by
 rcases h with⟨l,B,X,C,J⟩|⟨D,c,z,X,s,r,d,C,J,T,q⟩|⟨D,c,z,X,s,r,d,S,v,b,C,J,T,q⟩|⟨D,c,z,X,s,r,d,C,J,T,q⟩
 ·exact r7 ⟨l,B,X,C,p _ _ _ _ J⟩
 ·exact kr (r7 ⟨D,c,z,X,s,r,d,C,J,T,p _ _ _ _ q⟩)
 ·exact kr (kr (r7 ⟨D,c,z,X,s,r,d,S,v,b,C,J,T,p _ _ _ _ q⟩))
 ·exact kr (kr (kr ⟨D,c,z,X,s,r,d,C,J,T,p _ _ _ _ q⟩))
def StepB.mono{K F:vr->vr->gk->wv->Prop}(h:StepB P k a E e t K)(p:∀a E e t,K a E e t->F a E e t):StepB P k a E e t F:=by
 rcases h with⟨l,B,X,C,J⟩|⟨D,c,v,z,X,s,r,d,C,J,T,q⟩|⟨D,c,v,z,X,s,r,d,S,b,C,J,T,q⟩
 ·exact r7 ⟨l,B,X,C,p _ _ _ _ J⟩
 ·exact kr (r7 ⟨D,c,v,z,X,s,r,d,C,J,T,p _ _ _ _ q⟩)
 ·exact kr (kr ⟨D,c,v,z,X,s,r,d,S,b,C,J,T,p _ _ _ _ q⟩)
end
section
variable {D:M8} {i:Tree} {c:Ren} {b:Nat}
def JZ(D:M8)(μ:MuP)(a E:vr)(e:gk)(t:wv):Prop:=∃Z f i I b,Rv (YD (iK Z) f i (I+b)) μ/\Open D Z f i I b a E e t
def Gh.stepA1(O:D.Ok)(h:Gh D Q Z S f i n g v c R U e t)(Y:X2 D Z i b c R E e):StepA D.P D.L.k (Bn n g) E e t (JZ D (YD (iK Z) f i (1+b))):=by
 obtain⟨s,k,M⟩:=h.ch;cases f with
 |node m=>
  obtain⟨d,X,o,G,a,C,J,B,q⟩:=h.stepA O _ _;obtain⟨W,K,p⟩:=J.ch;refine r7 ⟨_,d,X,C,Z,m v.drawn,i,1,b,.right _ (.left _ _ ⟨_,iI⟩),Q,S,n,o,G,a,R,_,J,r7 ⟨iI,iI⟩,?_,Aa⟩;rw[Y.woken h.runB p];exact Y.keep B q
 |leaf=>
  obtain⟨z,N⟩:=h.atA;have j:=N.comm n e h.sa.fix;rw[h.ca.2]at j;rcases Y.status h.runB with⟨A,u⟩|⟨A,u⟩
  ·refine kr (r7 ⟨_,D.L.Ch,z,#[],s,s,k,j,M,by rw[A];simp,Z,.leaf,i,0,b,UW Aa,Q,S,n,g,v,c,R,U,?_,kr (r7 ⟨iI,iI,z,iI⟩),Y,Aa⟩);exact h
  ·rcases Y with⟨w,_⟩|⟨_,rfl,x,F,I,rfl,P,V⟩|⟨a1,w,_⟩
   ·omega
   ·refine kr (kr (r7 ⟨_,D.L.Ch,z,#[],s,s,k,core _,F,I,j,M,iI,?_⟩));have a6:∀l:wv,MemOp.ofEvents 0 (Bn n g).frame.fn (Bn n g).frame.place #[]++l=l:=λl=>by simp[MemOp.ofEvents]
    obtain⟨y,r,T,L,H⟩:=h.meets O x V M (m1:={ g:=D.L.k,fn:=(core (Bn c R)).frame.fn,pos:=(core (Bn c R)).frame.place,act:=.send D.L.Ch s }) (m2:={ g:=0,fn:=(core (Bn n g)).frame.fn,pos:=(core (Bn n g)).frame.place,act:=.recv D.L.Ch s 0 }) (m3:={ g:=D.L.k,fn:=(core (Bn c R)).frame.fn,pos:=(core (Bn c R)).frame.place,act:=.sendDone D.L.Ch s }) (m4:={ g:=0,fn:=(core (Bn n g)).frame.fn,pos:=(core (Bn n g)).frame.place,act:=.recvDone D.L.Ch s }) ⟨iI,iI⟩ ⟨iI,iI⟩ ⟨iI,iI⟩ ⟨iI,iI⟩;exact⟨y,r,T,1,1,.left _ _ Aa,H⟩
   ·omega
def Open.stepA(O:D.Ok)(m:Open D Z f i I b a E e t)(d:a.status=.running):StepA D.P D.L.k a E e t (JZ D (YD (iK Z) f i (I+b))):=by
 have ⟨Q,S,n,g,v,c,R,U,p,B,Y,o⟩:=m;rcases B with⟨rfl,rfl⟩|⟨_,_,z,rfl⟩|⟨w,rfl,G⟩
 ·exact p.stepA1 O Y
 ·cases d
 ·rcases G.cases with C|⟨q,rfl,h⟩
  ·obtain⟨rfl,_⟩:=C e (Mw.RoR.refl e);exact(p.stepA1 O Y).mono λa E e t⟨y,l,T,N,k,r,H⟩=>⟨y,l,T,N,k,Adl r Aa,H⟩
  ·obtain⟨J,u,X,V,⟨rfl,L⟩,j⟩:=h e (Mw.RoR.refl e);have ⟨s,x,M⟩:=p.ch;refine r7 ⟨J,u,X,V,Z,f,i,q+2,b,UW Aa,Q,S,n,g,v,c,R,U,p.ti' (Afu O.1 p.ti L _ _).1,kr (kr ⟨q,iI,j⟩),?_,Aa⟩
   rwa[Y.woken p.runB M]
def Gh.stepB1(O:D.Ok){K:vr->vr->gk->wv->Prop}(h:Gh D Q Z S f i n g v c R U e t)(B:Sd D f I n g a e)(j:Z = []->i=.leaf->StepB D.P D.L.k a (Bn c R) e t K)(p:∀a E e t,JZ D (YD (iK Z) f i (I+1)) a E e t->K a E e t):StepB D.P D.L.k a (Bn c R) e t K:=by
 obtain⟨s,A,M⟩:=h.ch;cases i with
 |node m=>
  obtain⟨d,X,o,q,G,P,C,J,u,N⟩:=h.stepB O _ _;obtain⟨s',a1,w⟩:=J.ch;refine r7 ⟨_,d,X,C,p _ _ _ _ ⟨Z,f,m U.drawn,I,1,.right _ (.right _ (.left _ _ ⟨_,iI⟩)),o,S,P,g,_,c,q,G,J,?_,r7 ⟨iI,iI⟩,Aa⟩⟩;rw[B.woken h.runA w];exact B.keep u N
 |leaf=>
  cases Z with
  |nil=>exact j iI iI
  |cons x Z=>
   obtain⟨a6,z,F,_⟩:=h.6.2 U.drawn;have k:=F.comm c e h.sb.fix;rw[h.cb.2]at k;rcases B.status h.runA with⟨b,W⟩|⟨b,W⟩
   ·refine kr (r7 ⟨_,D.L.Ch,_,z,#[],s,s,A,k,M,by rw[b];simp,p _ _ _ _ ⟨x::Z,f,.leaf,I,0,UW Aa,Q,S,n,g,v,c,R,U,?_,B,kr (r7 ⟨iI,iI,Ad,_,z,iI,e,k⟩),Aa⟩⟩);exact h
   ·rcases B with⟨Y,_⟩|⟨_,rfl,V,rfl⟩|⟨a7,Y,_⟩
    ·omega
    ·refine kr (kr ⟨_,D.L.Ch,_,z,#[],s,s,A,core _,V,k,M,iI,p _ _ _ _ ?_⟩);have a8:∀l:wv,MemOp.ofEvents D.L.k (Bn c R).frame.fn (Bn c R).frame.place #[]++l=l:=λl=>by simp[MemOp.ofEvents]
     obtain⟨y,r,T,L,H⟩:=h.meets O Ad k M (m1:={ g:=D.L.k,fn:=(core (Bn c R)).frame.fn,pos:=(core (Bn c R)).frame.place,act:=.send D.L.Ch s }) (m2:={ g:=0,fn:=(core (Bn n g)).frame.fn,pos:=(core (Bn n g)).frame.place,act:=.recv D.L.Ch s 0 }) (m3:={ g:=D.L.k,fn:=(core (Bn c R)).frame.fn,pos:=(core (Bn c R)).frame.place,act:=.sendDone D.L.Ch s }) (m4:={ g:=0,fn:=(core (Bn n g)).frame.fn,pos:=(core (Bn n g)).frame.place,act:=.recvDone D.L.Ch s }) ⟨iI,iI⟩ ⟨iI,iI⟩ ⟨iI,iI⟩ ⟨iI,iI⟩;exact⟨y,r,T,1,1,.left _ _ Aa,H⟩
    ·omega
def Open.stepB(O:D.Ok){K:vr->vr->gk->wv->Prop}(m:Open D Z f i I b a E e t)(d:E.status=.running)(z:∀Q S n g v c R U,Gh D Q [] S f .leaf n g v c R U e t->Sd D f I n g a e->Z = []->i=.leaf->E=Bn c R->StepB D.P D.L.k a E e t K)(Y:∀a E e t,JZ D (YD (iK Z) f i (I+b)) a E e t->K a E e t):StepB D.P D.L.k a E e t K:=by
 obtain⟨Q,S,n,g,v,c,R,U,p,B,o,A⟩:=m;rcases o with⟨rfl,rfl⟩|⟨_,_,_,F,P,rfl,_⟩|⟨W,rfl,G⟩
 ·exact p.stepB1 O B (λw x=>Aj) Y
 ·cases d
 ·rcases G.cases with C|⟨q,rfl,h⟩
  ·obtain⟨rfl,_⟩:=C e (Mw.RoR.refl e);exact p.stepB1 O B (λw x=>Aj) λa E e t⟨y,l,T,N,k,r,H⟩=>Y _ _ _ _ ⟨y,l,T,N,k,Adl r Aa,H⟩
  ·obtain⟨J,u,X,V,⟨rfl,L⟩,j⟩:=h e (Mw.RoR.refl e);obtain⟨s,a1,M⟩:=p.ch;refine r7 ⟨J,u,X,V,Y _ _ _ _ ⟨Z,f,i,I,q+2,UW Aa,Q,S,n,g,v,c,R,U,p.ti' (Afu O.1 p.ti L _ _).2,?_,kr (kr ⟨q,iI,j⟩),Aa⟩⟩
   rwa[B.woken p.runA M]
def Open.wake(h:Open D Z f i I b a E e t)(P x d):woken P x d e a=a/\woken P x d e E=E:=by
 have ⟨Q,S,n,g,v,c,R,U,p,B,Y,V⟩:=h;have ⟨s,j,M⟩:=p.ch;exact⟨B.woken p.runA M _ _,Y.woken p.runB M _ _⟩
def Open.awake(h:Open D Z f i I b a E e t):awake a/\awake E/\(a.status=.running∨E.status=.running):=by
 have X:∀{g},(g.status=.running∨g.status=.blocked∨g.status=.finished)->Conc.awake g:=λh t d=>by
  grind
 have ⟨Q,S,n,g,v,c,R,U,p,B,Y,V⟩:=h;rcases B.status p.runA with⟨C,_⟩|⟨C,j⟩
 ·exact⟨X (r7 C),X ((Y.status p.runB).imp (·.1) λx=>r7 x.1),r7 C⟩
 ·rcases Y.status p.runB with⟨J,_⟩|⟨J,L⟩
  ·grind
  omega
def Open.mute(O:D.Ok){d u h}(F:d≠0)(m:d≠D.L.k)(L:∀k∈X,Event.mute k=km)(j:Open D Z f i I b a E e t):Open D Z f i I b a E e (t++MemOp.ofEvents d u h X):=by
 have ⟨Q,S,n,g,v,c,R,U,p,B,Y,V⟩:=j;refine⟨Q,S,n,g,v,c,R,U,p.ti' ?_,B,Y,V⟩;exact p.ti.appMute (O.1.parts Q) (.refl e) Ai1 (zl t (dG (dG F)) _ λl T=>B9 T) (zl t m _ λl T=>B9 T) λl T=>by obtain⟨k,N,rfl⟩:=py T;exact low_mute (L k N) _
end
def Fv{a}{R i:gk->gk->Prop}{D c:gk->gk->Array Event->Prop}{b S:vr->gk->Prop}(e:∀w B,i w B->R w B)(f:∀w B X,D w B X->c w B X)(H:∀g w,b g w->S g w):∀{n} {g} {w},o2 P a R D b n g w->o2 P a i c S n g w
 |0,_,_,h=>λK U=>H _ _ (h K (e _ _ U))
 |n+1,g,w,h=>by
  rcases h with h|⟨s,h⟩
  ·exact r7 λK U=>H _ _ (h K (e _ _ U))
  ·refine kr ⟨s,λK U=>?_⟩;have:=h K (e _ _ U);revert this;cases stepG P a g K<;>simp only[GStep.goes,imp_self];exact fun⟨d,x⟩=>⟨f _ _ _ d,Fv e f H x⟩
abbrev S1:List (Unit×uo):=[((),qp)]
def Sc(P:im)(aP a:vr)(w:gk):Prop:=aP.status=.running/\∃m,o2 P km AtRel D0 (λx _=>x=aP) m a w
def Sc.at_iff{b}(d):Sc P b a (w.at d)↔Sc P b a w:=
 ⟨fun⟨h,m,G⟩=>⟨h,m,Goes.rely atRel_trans G ⟨w.drawn,iI⟩⟩,fun⟨h,m,G⟩=>⟨h,m,Goes.rely atRel_trans G ⟨d,iI⟩⟩⟩
def Xn{a}{b:vr->gk->Prop}{r:gk}:∀{n} {g} {w},(∃d,w=r.at d)->o2 P a AtRel D0 b n g w->o2 P a AtRel D0 (λR B=>b R B/\∃d,B=r.at d) n g w
 |0,_,_,⟨d,W⟩,h=>λK U=>⟨h K U,by obtain⟨M,rfl⟩:=U;exact⟨M,by rw[W];rfl⟩⟩
 |n+1,g,w,⟨d,W⟩,h=>by
  rcases h with h|⟨s,h⟩
  ·exact r7 λK U=>⟨h K U,by obtain⟨M,rfl⟩:=U;exact⟨M,by rw[W];rfl⟩⟩
  ·refine kr ⟨s,λK U=>?_⟩;have:=h K U;revert this;cases stepG P a g K<;>simp only[GStep.goes,imp_self];rintro⟨⟨S,L⟩,x⟩;refine⟨⟨S,L⟩,Xn ?_ x⟩;obtain⟨M,rfl⟩:=U;exact⟨M,by rw[S,W];rfl⟩
section
variable (D:M8)
def M8.RW(w w₁:gk):Prop:=D9 D.ty D.L.Wg w->D9 D.ty D.L.Wg w₁
def M8.KA(i:Nat)(_:Obj):Prop:=i≠D.L.Wg/\i≠D.L.Ch
def M8.c0(KB:gW)(w0:gk)(aP:vr):BR:=
 {P:=D.P,Shun:=D.L.Shun,k:=D.L.k,Wg:=D.L.Wg,Ch:=D.L.Ch,ty:=D.ty,LA:=D.L.LA KB,LB:=D.L.LB KB,KA:=λ_ _=>False,KB:=D.KA,β:=Unit,Msg:=λ_ _ w=>Gf D.KA w0 w,FB:=λ_ _=>True,PostA:=λ_ a w=>Sc D.P aP a w }
def WD4(g:vr)(w:gk):Prop:=
 g.status=.running/\((∃st,Dx D.ty D.L.Wg w st 0)->∃g',stepG D.P sd g w=.go g' (w.setCell (FJ D.L.Wg) (uu .u32 1)) (semEvents (FJ D.L.Wg))/\mayWake D.P g=km/\∃q,QuitsD D.P q 1 g')
def WD3(g:vr)(w:gk):Prop:=
 g.status=.running/\((∃st,Dx D.ty D.L.Wg w st 0)->∃g',stepG D.P sd g w=.go g' (w.setCell (Ga D.L.Wg) (uu .u64 0)) #[VZ (Ga D.L.Wg)]/\∃m,o2 D.P sd D.RW D0 (WD4 D) m g' (w.setCell (Ga D.L.Wg) (uu .u64 0)))
def WD2(g:vr)(w:gk):Prop:=
 g.status=.running/\(Dx D.ty D.L.Wg w 1 0->∃g',stepG D.P sd g w=.go g' w #[CP (Ga D.L.Wg)]/\∃m,o2 D.P sd D.RW D0 (WD3 D) m g' w)
def WD1(g:vr)(w:gk):Prop:=
 g.status=.running /\
  (Dx D.ty D.L.Wg w KK 0->∃g',stepG D.P sd g w=.go g' (w.setCell (Ga D.L.Wg) (uu .u64 0)) #[CP (Ga D.L.Wg),VZ (Ga D.L.Wg)]/\∃q,QuitsD D.P q 1 g') /\
  (Dx D.ty D.L.Wg w (KK+1) 0->∃g',stepG D.P sd g w=.go g' (w.setCell (Ga D.L.Wg) (uu .u64 1)) #[CP (Ga D.L.Wg),VZ (Ga D.L.Wg)]/\∃m,o2 D.P sd D.RW D0 (WD2 D) m g' (w.setCell (Ga D.L.Wg) (uu .u64 1)))
def WK1(g:vr)(w:gk):Prop:=
 g.status=.running/\∃g',stepG D.P sd g w=.go g' w #[R9 .disable]/\∃m,o2 D.P sd D.RW D0 (WD1 D) m g' w
def WR0(g:vr)(w:gk):Prop:=
 g.status=.running/\∃g',stepG D.P sd g w=.go g' w #[R9 (.releaseMerge (Ga D.L.Wg))]/\∃m,o2 D.P sd D.RW D0 (WK1 D) m g' w
def WCl(g:vr)(w:gk):Prop:=
 g.status=.running/\mayWake D.P g=km/\∀s r tm,w.1[D.L.Ch]?=lj (.chan 0 #[] sd s r tm) ->
  ∃g₂,stepG D.P sd g w=.go g₂ (w.shut D.L.Ch s r tm) #[⟨.obj D.L.Ch,sd,km⟩,⟨.obj D.L.Ch,km,km⟩]/\g₂.status=.running/\∃m,o2 D.P sd D.RW D0 (WR0 D) m g₂ (w.shut D.L.Ch s r tm)
structure Vl where
 EndA:vr->gk->Prop
 EndB:(Nat->Prop)->gk->Prop
 atA:∀g v d,EndA g v->EndA g (v.at d)
 atB:∀S v d,EndB S v->EndB S (v.at d)
 finA:∀g v,D.18 g v->∃gP,EndA gP v/\(∀M,Bn (.up M) g=g->Bn (.up M) gP=gP)/\∀KB w0 n w,n.Fix D.P.globals.size->sh n D.4=D.L.Ch->sh n D.5=D.L.Wg->D9 D.ty D.L.Wg w->ARc (D.c0 KB w0 (Bn n gP)) S1 (Bn n g) w
 finB:∀S g v,D.19 S g v->EndB S v/\∀n w,n.Fix D.P.globals.size->sh n D.6=D.L.Ch->sh n D.7=D.L.Wg->D9 D.ty D.L.Wg w->WCl D (Bn n g) w
end
section
variable {D:M8} {r:gk}
def U9:D.RW e e:=id
def rwT:∀a b c,D.RW a b->D.RW b c->D.RW a c:=λ_ _ _ h k x=>k (h x)
def Xr(w B)(h:RB (D.c0 Q r a) w B):D.RW w B:=h.wg
def Apl(b:WD3 D h e):BD3 (D.c0 Q r a) h e:=⟨b.1,λx=>let⟨R,C,m,J⟩:=b.2 x;⟨R,C,m,Fv Xr (λ_ _ _ b=>b) (λ_ _ b=>b) J⟩⟩
def Apk(b:WD2 D h e):BD2 (D.c0 Q r a) h e:=⟨b.1,λx=>let⟨R,C,m,J⟩:=b.2 x;⟨R,C,m,Fv Xr (λ_ _ _ b=>b) (λ_ _=>Apl) J⟩⟩
def Ajn(b:WD1 D h e):BD1 (D.c0 Q r a) h e:=⟨b.1,b.2.1,λx=>let⟨R,C,m,J⟩:=b.2.2 x;⟨R,C,m,Fv Xr (λ_ _ _ b=>b) (λ_ _=>Apk) J⟩⟩
def Ajo(b:WK1 D h e):BK1 (D.c0 Q r a) h e:=let⟨F,R,C,m,J⟩:=b;⟨F,R,C,m,Fv Xr (λ_ _ _ b=>b) (λ_ _=>Ajn) J⟩
def Apn(b:WR0 D h e):BR0 (D.c0 Q r a) S1 h e:=let⟨F,R,C,m,J⟩:=b;⟨F,trivial,R,C,m,Fv Xr (λ_ _ _ b=>b) (λ_ _=>Ajo) J⟩
def M8.Ok.cfg(O:D.Ok)(Q r b):(D.c0 Q r b).Ok where
 hk:=O.1.1
 parts:=O.1.parts Q
 neq:=O.neq
 ka:=λi o a=>a.elim
 kb:=λi o a=>a
 msgB:=λ_ _ e d a L=>L.trans a
 fbB:=λ_ _ _ _ a=>a
 postAt:=λ_ h e c=>Sc.at_iff c
end
inductive WS|r0|k1|d1|qt
def WS.rk:WS->Nat
 |.r0=>4|.k1=>3|.d1=>2|.qt=>1
def WS.bt:WS->BT
 |.r0=>.r0|.k1=>.k1|.d1=>.d1|.qt=>.qt
def WS.df:WS->Nat
 |.d1|.qt=>1|_=>0
def WS.st:WS->Int
 |.qt=>0|_=>KK
def StW(D:M8):WS->vr->gk->Prop
 |.r0=>WR0 D|.k1=>WK1 D|.d1=>WD1 D|.qt=>λ_ _=>False
def Y1(D:M8):WS->Nat->Nat->vr->gk->Prop
 |.qt,rb,dB,b,w=>QuitsD D.P rb dB b
 |s,rb,dB,b,w=>dB=s.df/\∃n,rb=n+1/\o2 D.P sd D.RW D0 (StW D s) n b w
section
variable {D:M8} {r:gk} {s:WS} {b:Nat}
def StW.running(a:StW D s h e):h.status=.running:=by cases s<;>first|exact a.1|exact a.elim
def Y1.rely(h:Y1 D s b j E e)(Y:D.RW e d):Y1 D s b j E d:=by
 cases s with
 |qt=>exact h
 |_=>
  have ⟨F,n,C,J⟩:=h;exact⟨F,n,C,Goes.rely rwT J Y⟩
def Y1.status(h:Y1 D s b j E e):E.status=.running∨E.status=.finished:=by
 cases s with
 |qt=>exact QuitsD.status h
 |_=>have ⟨_,n,_,J⟩:=h;exact r7 (J.running (λ_ _ h=>StW.running h) e U9)
def Y1.b2(h:Y1 D s b j E e):Pl (D.c0 Q r a) S1 s.bt b j E e:=by
 cases s with
 |qt=>exact kr ⟨iI,h⟩
 |r0=>
  have ⟨F,n,C,J⟩:=h;exact r7 ⟨by simp[WS.bt],F,n,C,Fv Xr (λ_ _ _ h=>D0.db _ _ h) (λ_ _=>Apn) J⟩
 |k1=>
  have ⟨F,n,C,J⟩:=h;exact r7 ⟨by simp[WS.bt],F,n,C,Fv Xr (λ_ _ _ h=>h) (λ_ _=>Ajo) J⟩
 |d1=>
  have ⟨F,n,C,J⟩:=h;exact r7 ⟨by simp[WS.bt],F,n,C,Fv Xr (λ_ _ _ h=>h) (λ_ _=>Ajn) J⟩
end
structure Gc(D)(F:Vl D)(KB:gW)(S:gV)(TA n g v n' g' v')(w:gk)(t dB):Prop where
 lowW:D.low<=iL w.1
 kb:∀l,KB l->My w.1.size l
 sa:Di D.P n D.JA (D.L.A KB) g v w
 sb:Di D.P n' D.JB (D.L.B KB) g' v' w
 fa:FwT D.P km D.JA (ScA D []) TA g v
 pb:Plain v'
 eb:F.2 S v'
 ca:D.4<iL v.1/\sh n D.4=D.L.Ch
 cb:D.6<iL v'.1/\sh n' D.6=D.L.Ch
 ga:D.5<iL v.1/\sh n D.5=D.L.Wg
 gb:D.7<iL v'.1/\sh n' D.7=D.L.Wg
 hN:D.9<=iL v'.1
 same:D.8<=iL v.1/\(∀i,i<D.8->sh n i=D.fA i)/\(∀i,i<D.9->sh n' i=D.fB i)/\D.L.RoR D.w0 w
 disj:∀i j,i<iL v.1->D.9<=j->j<iL v'.1->¬S j->sh n i≠sh n' j
 new:∀j,D.9<=j->j<iL v'.1->D.low<=sh n' j
 ti:D.L.TI KB t w 0 dB
 ch:∃s r tm,w.1[D.L.Ch]?=lj (.chan 0 #[] km s r tm)
structure WG(D)(F:Vl D)(KB:gW)(S:gV)(w0:gk)(n gP v n' g' v'):Prop where
 lowW:D.low<=iL w0.1
 kb:∀l,KB l->My w0.1.size l
 sa:Di D.P n D.JA (D.L.A KB) gP v w0
 sb:Di D.P n' D.JB (D.L.B KB) g' v' w0
 pa:Plain v
 pb:Plain v'
 ea:F.1 gP v
 eb:F.2 S v'
 ca:D.4<iL v.1/\sh n D.4=D.L.Ch
 cb:D.6<iL v'.1/\sh n' D.6=D.L.Ch
 ga:D.5<iL v.1/\sh n D.5=D.L.Wg
 gb:D.7<iL v'.1/\sh n' D.7=D.L.Wg
 hN:D.9<=iL v'.1
 same:D.8<=iL v.1/\(∀i,i<D.8->sh n i=D.fA i)/\(∀i,i<D.9->sh n' i=D.fB i)/\D.L.RoR D.w0 w0
 disj:∀i j,i<iL v.1->D.9<=j->j<iL v'.1->¬S j->sh n i≠sh n' j
 new:∀j,D.9<=j->j<iL v'.1->D.low<=sh n' j
 wg:D9 D.ty D.L.Wg w0
 ch:∃s r tm,w0.1[D.L.Ch]?=lj (.chan 0 #[] km s r tm)
section
variable {D:M8} {F:Vl D} {i:Tree} {c:Ren} {s:WS}
def Gc.change(O:D.Ok)(q:Gc D F Q S f n h v c R U e t j)(X:Dd e d L)(N:∀b∈L,Gw D.L.Wg b.loc∨b.loc=.obj D.L.Ch){p}(C:D.L.TI Q p d 0 Y)(z:∃s o w,d.1[D.L.Ch]?=lj (.chan 0 #[] km s o w)):∃u a,Gc D F Q S f u h (v.at d.drawn) a R (U.at d.drawn) d p Y/\Bn u h=Bn n h:=by
 obtain⟨u,y,G,W⟩:=q.sa.other (Own':=D.L.A Q) X (λb Z _ _ m=>(N b Z).elim m.2.2.1 m.2.2.2.1) λ_ _ q=>q;obtain⟨a,r,x,E⟩:=q.sb.other (Own':=D.L.B Q) X (λb Z _ _ m=>(N b Z).elim m.2.2.1 m.2.2.2.1) λ_ _ q=>q;exact⟨u,a,⟨aE q.1 X.size,λl K=>Ja X.size (q.kb l K),y,r,q.5.at _,q.6,F.4 _ _ _ q.eb,⟨q.ca.1,by rw[W _ q.ca.1];exact q.ca.2⟩,⟨q.cb.1,by rw[E _ q.cb.1];exact q.cb.2⟩,⟨q.ga.1,by rw[W _ q.ga.1];exact q.ga.2⟩,⟨q.gb.1,by rw[E _ q.gb.1];exact q.gb.2⟩,q.hN,⟨q.same.1,λg V=>by rw[W g (aA V q.same.1)];exact q.same.2.1 g V,λg V=>by rw[E g (aA V q.hN)];exact q.same.2.2.1 g V,q.same.2.2.2.trans (Wq O.1 X N)⟩,
  λg i V k P H=>by rw[W g V,E i P];exact q.disj g i V k P H,λi k P=>by have P:i<iL U.1:=P;rw[E i P];exact q.new i k P,C,z⟩,G⟩
def Gc.tr(b:Gc D F Q S f n h v c R U e t j){a}(C:D.L.TI Q a e 0 Y):={ b with ti:=C }
def Gc.at(a:Gc D F Q S f n h v c R U e t j)(d):Gc D F Q S f n h (v.at d) c R (U.at d) (e.at d) t j:=
 ⟨a.1,a.kb,a.sa.at d,a.sb.at d,a.5.at d,a.6,F.4 _ _ _ a.eb,a.ca,a.cb,a.ga,a.gb,a.hN,⟨a.same.1,a.same.2.1,a.same.2.2.1,a.same.2.2.2.at d⟩,a.disj,a.new,JI a.ti (aC _) λ_ _=>Iff.rfl,a.ch⟩
def Gc.runA(a:Gc D F Q S f n h v c R U e t j):h.status=.running:=by
 cases f with
 |node b=>exact a.5.2.1
 |leaf=>have ⟨⟨z,N⟩,_⟩:=a.5.2 v.drawn;exact N.run
def Gc.stepA(O:D.Ok){f:Nat->Tree}(q:Gc D F Q S (.node f) n h v c R U e t j)(Z a1):∃d X i G a,stepG D.P km (Bn n h) e=.go (Bn n i) d X/\Gc D F Q S (f v.drawn) n i G a R (U.at d.drawn) d (t++MemOp.ofEvents 0 Z a1 X) j/\D.L.RoR e d/\(∀{st sm},Dx D.ty D.L.Wg e st sm->Dx D.ty D.L.Wg d st sm)/\∀M∈MemOp.ofEvents 0 Z a1 X,M.g≠D.L.k/\M.act≠.mark (.release (Ga D.L.Wg)):=by
 obtain⟨hp,ah,a7⟩:=q.5;obtain⟨i,G,m,p⟩:=a7 v.drawn;have m:Ha D.P km D.JA h v i G:=m;obtain⟨d,X,L,C,J,T,u,a6⟩:=q.sa.step m (Own':=D.L.A Q) (λ_ _ q=>q) λl K=>⟨λw=>Ee (aC _) (q.kb l w) K,Up O q.1 K⟩;replace u:∀b∈L,JR (D.L.A Q) (· = D.L.Ch) d.1.size b:=λb N=>QH (u b N) λx⟨r,Y,y⟩=>by rw[y,O.9 r Y];exact q.ca.2
 obtain⟨a,z,eB,E⟩:=q.sb.other (Own':=D.L.B Q) T (λb N W H I=>by
  rcases Nc (u b N) W with⟨x,_⟩|⟨af,x⟩
  ·exact x.1 I.1
  ·rwa[x]at H) λ_ _ q=>q
 obtain⟨s1,aa,s3⟩:=stays O T u λl K=>K.2;obtain⟨e0,o,_⟩:=m.frame;obtain⟨s,r,ab,ad⟩:=q.ch;refine⟨d,X,i,G,a,C,⟨aE q.1 T.size,λl K=>Ja T.size (q.kb l K),J,z,p,q.6,F.4 _ _ _ q.eb,⟨aA q.ca.1 o.size,q.ca.2⟩,⟨q.cb.1,by rw[E _ q.cb.1];exact q.cb.2⟩,⟨aA q.ga.1 o.size,q.ga.2⟩,⟨q.gb.1,by rw[E _ q.gb.1];exact q.gb.2⟩,q.hN,⟨aE q.same.1 o.size,q.same.2.1,λg V=>by rw[E g (aA V q.hN)];exact q.same.2.2.1 g V,q.same.2.2.2.trans s1⟩,λg k V A P a8=>?_,λk A P=>?_,OM O.1 q.ti T.size (λb N=>u b (a6 b N)) _ _,⟨s,r,ab,s3 ad λ_ _ _ b=>Af6⟩⟩,s1,aa,λM B=>?_⟩
 ·have P:k<iL U.1:=P;rw[E k P];by_cases ae:g<iL v.1
  ·exact q.disj g k ae A P a8
  ·have:=(q.sa.sm 0).out g Aa;have:=(q.sb.sm 0).lt k P;omega
 ·have P:k<iL U.1:=P;rw[E k P];exact q.new k A P
 ·obtain⟨b,N,rfl⟩:=py B;exact⟨by show 0≠D.L.k;have:=O.1.1;omega,XK (u b (a6 b N)) _⟩
def Gc.end(O:D.Ok)(b:Gc D F Q S .leaf n h v c R U e t j)(g:a=Bn n h∨∃cs q,a = { parked (core (Bn n h)) cs q with status:=.running })(i:Y1 D s rb j E e)(d:Dx D.ty D.L.Wg e s.st 0)(hrel:s≠.r0->∃r,RI D.L.k D.L.Wg t r):∃o M,WG D F Q S e n o v c R U/\J (D.c0 Q e (Bn n o)) [()] M a E e t:=by
 have ⟨_,hF⟩:=b.5.2 v.drawn;have ⟨o,N,k,y⟩:=F.5 _ _ hF;refine⟨o,_,⟨b.1,b.kb,{ b.sa with wf:=⟨b.sa.wf.mem,k _ b.sa.wf.2⟩ },b.sb,b.5.1,b.6,N,b.eb,b.ca,b.cb,b.ga,b.gb,b.hN,b.same,b.disj,b.new,⟨_,_,d⟩,b.ch⟩,kr (r7 ⟨S1,.rc,s.bt,1,rb,rfl,rfl,b.ch,⟨s.st,0,by cases s<;>rfl,d⟩,⟨j,b.ti,i.b2⟩,r7 ⟨0,iI,λK Y=>?_⟩,λ_=>Aa,λx Z=>Gf.refl _ _,λl=>⟨trivial,hrel λx=>l (by rw[x];rfl)⟩⟩)⟩;have f:=y Q e n K b.sa.fix b.ca.2 b.ga.2 (Y.wg ⟨_,_,d⟩);rcases g with rfl|⟨cs,q,rfl⟩
 ·exact f
 ·exact Kn.again (C:=D.c0 Q e (Bn n o)) (bs:=[]) f
end
section
variable (D:M8) (F:Vl D)
def Clo(TA:Tree)(s:WS)(ra rb:Nat)(a b:vr)(w:gk)(t:wv):Prop:=
 ∃KB S n g v n' g' v' dB,Gc D F KB S TA n g v n' g' v' w t dB/\Sd D TA ra n g a w/\ra≠0/\Y1 D s rb dB b w/\Dx D.ty D.L.Wg w s.st 0/\(s≠.r0->∃r,RI D.L.k D.L.Wg t r)
def Ap9(μ0:Nat×Nat)(a b:vr)(w:gk)(t:wv):Prop:=∃KB S w0 n gP v n' g' v',WG D F KB S w0 n gP v n' g' v'/\J (D.c0 KB w0 (Bn n gP)) [()] μ0 a b w t
def Af9(a b:vr)(w:gk)(t:wv):Prop:=∃KB S w0 n gP v n' g' v',WG D F KB S w0 n gP v n' g' v'/\Fin (D.c0 KB w0 (Bn n gP)) [()] a b w t
def EF(TA:Tree)(s:WS)(r:Nat):MuP:=(1,TA,.leaf,(s.rk,r))
def JD(μ:MuP)(a b:vr)(w:gk)(t:wv):Prop:=
 (∃μ0,μ=(0,.leaf,.leaf,μ0)/\Ap9 D F μ0 a b w t)∨(∃TA s ra rb,μ=EF TA s (ra+rb)/\Clo D F TA s ra rb a b w t)∨∃ms TA TB ra rb,μ=YD (iK ms) TA TB (ra+rb)/\Open D ms TA TB ra rb a b w t
def JDL(μ:MuP)(a b:vr)(w:gk)(t:wv):Prop:=∃μ',Rv μ' μ/\JD D F μ' a b w t
end
section
variable {D:M8} {F:Vl D} {i:Tree} {c:Ren} {b:Nat} {s:WS}
def Clo.runA(d:Clo D F f s I b a E e t):a.status=.running:=by
 have ⟨Q,S,n,h,v,c,R,U,j,p,B,z,_⟩:=d;rcases B.status p.runA with⟨C,_⟩|⟨_,C⟩
 ·exact C
 ·exact absurd C z
def RE{E s D}(h:r<D):Rv (EF E s r) (EF E s D):=.right _ (.right _ (.right _ (.right _ h)))
def Adk{E s W D}(h:W.rk<s.rk):Rv (EF E W r) (EF E s D):=.right _ (.right _ (.right _ (.left _ _ h)))
def XZ{B E x y}(h:Tree.Sub T E):Rv (k,T,B,x) (k,E,B,y):=.right _ (.left _ _ h)
def Clo.stepB(O:D.Ok)(a6:Clo D F f s I b a E e t)(M:E.status=.running):StepB D.P D.L.k a E e t (JDL D F (EF f s (I+b))):=by
 have w:∀i d,woken D.P E i d a=a:=λi d=>Dz (r7 a6.runA);obtain⟨Q,S,n,h,v,c,R,U,j,p,B,y,z,k,hrel⟩:=a6;have J:∀{s} {m},(s=.r0∨s=.k1∨s=.d1)->j=s.df->Dx D.ty D.L.Wg e s.st 0->(s≠.r0->∃r,RI D.L.k D.L.Wg t r) ->
   (∀P,D.RW e P->∃R d X,stepG D.P sd E P=.go R d X/\D0 P d X/\o2 D.P sd D.RW D0 (StW D s) m R d)->StepB D.P D.L.k a E e t (JDL D F (EF f s (I+(m+1+1)))):=by
  intro s m ab o k hrel H;obtain⟨i,a7,X,V,hD,a8⟩:=H e U9;obtain⟨W,Y⟩:a7=e/\X=#[]:=⟨hD.1,hD.2⟩;subst W Y;refine r7 ⟨i,_,#[],V,EF f s (I+(m+1)),RE Aa,kr (r7 ⟨f,s,I,m+1,iI,?_⟩)⟩;rw[w,UY];refine⟨Q,S,n,h,v,c,R,U,j,p,B,y,?_,k,hrel⟩;rcases ab with rfl|rfl|rfl<;>exact⟨o,m,iI,a8⟩
 have a1:∀e,(D.c0 Q e a).Ok:=λe=>O.cfg Q e a;cases s with
 |r0=>
  obtain⟨o,m,rfl,K⟩:=z;rcases K.cases with C|⟨m',rfl,H⟩
  rotate_left
  ·grind
  obtain⟨_,i,V,q,L⟩:=C e U9;refine r7 ⟨i,e,_,V,EF f .k1 (I+(q+1)),Adk Ae,kr (r7 ⟨f,.k1,I,q+1,iI,?_⟩)⟩;rw[w];subst o;exact⟨Q,S,n,h,v,c,R,U,_,p.tr (JJ (a1 e) p.ti (.refl _) (FQ k) (λg N=>by simp at N;exact kr (kr (kr N))) _ _),B,y,⟨iI,q,iI,L⟩,k,λ_=>⟨_,RI.new p.ti.6 _ _⟩⟩
 |k1=>
  obtain⟨o,m,rfl,K⟩:=z;rcases K.cases with C|⟨m',rfl,H⟩
  rotate_left
  ·grind
  obtain⟨_,i,V,q,L⟩:=C e U9;obtain⟨r,A⟩:=hrel Ad;refine r7 ⟨i,e,_,V,EF f .d1 (I+(q+1)),Adk Ae,kr (r7 ⟨f,.d1,I,q+1,iI,?_⟩)⟩;rw[w];subst o;exact⟨Q,S,n,h,v,c,R,U,_,p.tr (JJ (a1 e) p.ti (.refl _) (FQ k) (λg N=>by simp at N;exact kr (r7 N)) _ _),B,y,⟨iI,q,iI,L⟩,k,λ_=>⟨r,A.appOwn _ _ _ (λg N=>by simp at N;subst N;simp[R9]) λT g N=>r7 SC⟩⟩
 |d1=>
  obtain⟨o,m,rfl,K⟩:=z;rcases K.cases with C|⟨m',rfl,H⟩
  rotate_left
  ·exact J (kr (kr iI)) o k hrel H
  obtain⟨_,hK,_⟩:=C e U9;obtain⟨r,A⟩:=hrel Ad;obtain⟨i,V,q,L⟩:=hK k;refine r7 ⟨i,_,_,V,EF f .qt (I+q),Adk Ae,kr (r7 ⟨f,.qt,I,q,iI,?_⟩)⟩;rw[w];subst o;obtain⟨x,aa,ad,aj⟩:=p.ch;obtain⟨ae,n3,af,Y⟩:=p.change O (Gd e (Ga D.L.Wg) (uu .u64 0) km) (λg N=>by simp at N;subst N;exact r7 ⟨_,iI,iI⟩) (JJ (a1 e) p.ti (Zv _ _) (by rw[Qp];exact FQ k) (QE _) E.frame.fn E.frame.place) ⟨x,aa,ad,by rwa[Eg _ _ (by exact dG O.neq)]⟩;refine⟨Q,S,ae,h,_,n3,R,_,_,af,B.keep Y (Wq O.1 (Gd e (Ga D.L.Wg) (uu .u64 0) km) λg N=>by simp at N;subst N;exact r7 ⟨_,iI,iI⟩),y,L,Lq k 0,λ_=>⟨r,Wp (C:=D.c0 Q e a) A p.ti.6 (kr (kr (r7 iI))) _ _⟩⟩
 |qt=>
  cases b with
  |zero=>rw[z.1]at M;cases M
  |succ m=>
   rcases z with⟨ah,_⟩|⟨_,i,X,u,V,ai⟩
   ·rw[ah]at M;cases M
   ·refine r7 ⟨i,e,X,V e,EF f .qt (I+m),RE Aa,kr (r7 ⟨f,.qt,I,m,iI,?_⟩)⟩;rw[w];refine⟨Q,S,n,h,v,c,R,U,_,p.tr ?_,B,y,ai,k,λW=>?_⟩
    ·refine TI.appB (O.1.parts _) O.1.1 p.ti (.refl e) (λop G=>B9 G) (λop G x Z _=>?_) ?_ (λop G=>?_)
     ·exact Csy
     ·rw[xh];exact aJ (deafBehind · X) p.ti.6
     ·obtain⟨g,N,rfl⟩:=py G;exact low_mute (u g N) _
    ·obtain⟨r,A⟩:=hrel W;refine⟨r,A.appOwn _ _ _ (λg N x=>?_) λT g N=>r7 (touch_mute (u g (cF N)))⟩;have:=u g N;obtain⟨l,wr,ak⟩:=g;simp only at x;subst x;simp[Event.mute]at this
def Gc.stepA1(O:D.Ok){f:Nat->Tree}(p:Gc D F Q S (.node f) n h v c R U e t j)(g:Y1 D s b j E e)(k:Dx D.ty D.L.Wg e s.st 0)(hrel:s≠.r0->∃r,RI D.L.k D.L.Wg t r)(l):StepA D.P D.L.k (Bn n h) E e t (JDL D F (EF (.node f) s l)):=by
 obtain⟨d,X,o,G,a,C,J,T,q,z⟩:=p.stepA O _ _;refine r7 ⟨_,d,X,C,EF _ s _,XZ ⟨_,iI⟩,kr (r7 ⟨f v.drawn,s,1,b,iI,Q,S,n,o,G,a,R,_,j,J,r7 ⟨iI,iI⟩,Aa,?_,q k,λm=>let⟨r,u⟩:=hrel m;⟨r,u.appOther z⟩⟩)⟩;rw[Dz g.status];exact g.rely fun⟨i,sm,x⟩=>⟨i,sm,q x⟩
def Clo.step(O:D.Ok)(u:Clo D F f s I b a E e t):Af9 D F a E e t∨((a.status=.running->StepA D.P D.L.k a E e t (JDL D F (EF f s (I+b))))/\(E.status=.running->StepB D.P D.L.k a E e t (JDL D F (EF f s (I+b))))):=by
 have q:=u.stepB O;obtain⟨Q,S,n,h,v,c,R,U,j,p,B,z,k,l,hrel⟩:=u;have w:f=.leaf->a=Bn n h->Af9 D F a E e t∨((a.status=.running->StepA D.P D.L.k a E e t (JDL D F (EF f s (I+b))))/\(E.status=.running->StepB D.P D.L.k a E e t (JDL D F (EF f s (I+b))))):=λd m=>by
  subst d;obtain⟨o,a6,g,W⟩:=p.end O (r7 m) k l hrel;rcases W.step (O.cfg Q e (Bn n o)) with y|⟨y,J⟩
  ·exact r7 ⟨Q,S,e,n,o,v,c,R,U,g,y⟩
  ·exact kr ⟨λY=>(y Y).mono λa E _ t⟨i,K,W⟩=>⟨(0,.leaf,.leaf,i),.left _ _ Ae,r7 ⟨i,iI,Q,S,e,n,o,v,c,R,U,g,W⟩⟩,λY=>(J Y).mono λa E _ t⟨i,K,W⟩=>⟨(0,.leaf,.leaf,i),.left _ _ Ae,r7 ⟨i,iI,Q,S,e,n,o,v,c,R,U,g,W⟩⟩⟩
 rcases B with⟨x,rfl⟩|⟨x,_⟩|⟨a7,rfl,G⟩
 ·cases f with
  |leaf=>exact w iI iI
  |node H=>exact kr ⟨λ_=>p.stepA1 O k l hrel _,q⟩
 ·exact absurd x z
 ·rcases G.cases with C|⟨r,rfl,M⟩
  ·obtain⟨m,_⟩:=C e (Mw.RoR.refl e);cases f with
   |leaf=>exact w iI m
   |node H=>subst m;exact kr ⟨λ_=>p.stepA1 O k l hrel _,q⟩
  ·refine kr ⟨λ_=>?_,q⟩;obtain⟨N,P,X,V,⟨rfl,L⟩,A⟩:=M e (Mw.RoR.refl e);refine r7 ⟨N,P,X,V,EF f s (r+2+b),RE Aa,kr (r7 ⟨f,s,r+2,b,iI,Q,S,n,h,v,c,R,U,j,p.tr (Afu O.1 p.ti L _ _).1,kr (kr ⟨r,iI,A⟩),Aa,?_,l,λd=>let⟨T,g⟩:=hrel d;⟨T,g.appOther λa8 Z=>?_⟩⟩)⟩
   ·rwa[Dz k.status]
   ·obtain⟨d,a1,rfl⟩:=py Z;obtain⟨aa,rfl,_,_⟩:=L d a1;exact⟨by show 0≠D.L.k;have:=O.1.1;omega,by simp[MemAct.ofEvent]⟩
end
open Go.ConcN (sumTo upd sumTo_upd upd_ne upd_same)
section
variable {D:M8} {F:Vl D} {i:Tree} {c:Ren} {b:vr} {s:WS} {e:MuP}
def Gh.close(O:D.Ok)(q:Gh D Q [] S f .leaf n h v c R U w t)(B:Sd D f I n h a w)(L):StepB D.P D.L.k a (Bn c R) w t (JDL D F (YD 0 f .leaf L)):=by
 obtain⟨ag,hF⟩:=q.6.2 U.drawn;obtain⟨af,p⟩:=F.6 _ _ _ hF;obtain⟨_,aa,p⟩:=p c w q.sb.fix q.cb.2 q.gb.2 ⟨_,_,q.wg⟩;obtain⟨s,d,M⟩:=q.ch;obtain⟨e,T,J,m,ab⟩:=p s s d M;have Y:(w.shut D.L.Ch s s d).1[D.L.Ch]?=lj (.chan 0 #[] km s s d):=Uy (Hh M);have X:Dd w (w.shut D.L.Ch s s d) #[⟨.obj D.L.Ch,km,km⟩]:=Li w M Am1 (.chan 0 #[] km s s d) Am1 km iI;have z:∀(u:gW),¬u (.obj D.L.Ch)->∀j∈(#[⟨.obj D.L.Ch,km,km⟩]:Array Event),j.write=km->My w.1.size j.loc->¬u j.loc:=λu q j N _ _=>by
  grind
 obtain⟨G,y,a1,W⟩:=q.sa.other (Own':=D.L.A Q) X (z _ λx=>x.2.2.2.1 iI) λ_ _ q=>q;obtain⟨A,r,eB,E⟩:=q.sb.other (Own':=D.L.B Q) X (z _ λx=>x.2.2.2.1 iI) λ_ _ q=>q;have Z:Dx D.ty D.L.Wg (w.shut D.L.Ch s s d) KK 0:=by
  have j:(w.shut D.L.Ch s s d).1[D.L.Wg]?=w.1[D.L.Wg]?:=Lz O.neq;have hg:=q.wg;unfold Dx at hg⊢;exact j.trans hg
 have a6:Gc D F Q S f G h (v.at (w.shut D.L.Ch s s d).drawn) A R (U.at (w.shut D.L.Ch s s d).drawn) (w.shut D.L.Ch s s d) (t++MemOp.ofEvents D.L.k (Bn c R).frame.fn (Bn c R).frame.place #[⟨.obj D.L.Ch,sd,km⟩,⟨.obj D.L.Ch,km,km⟩]) 0:=
  ⟨aE q.1 X.size,λl K=>Ja X.size (q.kb l K),y,r,q.5.at _,q.6.1,F.4 _ _ _ af,⟨q.ca.1,by rw[W _ q.ca.1];exact q.ca.2⟩,⟨q.cb.1,by rw[E _ q.cb.1];exact q.cb.2⟩,⟨q.ga.1,by rw[W _ q.ga.1];exact q.ga.2⟩,⟨q.gb.1,by rw[E _ q.gb.1];exact q.gb.2⟩,q.hN,⟨q.same.1,λg V=>by rw[W g (aA V q.same.1)];exact q.same.2.1 g V,λg V=>by rw[E g (aA V q.hN)];exact q.same.2.2.1 g V,q.same.2.2.2.trans (Wq O.1 X λj N=>Aj)⟩,
   λg i V k P H=>by have V:g<iL v.1:=V;have P:i<iL U.1:=P;rw[W g V,E i P];exact q.disj g i V k P H,λi k P=>by have P:i<iL U.1:=P;rw[E i P];exact q.new i k P,(OJ (O.cfg Q w a) q.ti (show Mx w (w.shut D.L.Ch s s d) from Zu M iI) (Hh Y) (Bn c R).frame.fn (Bn c R).frame.place),⟨s,s,d,Y⟩⟩
 have a7:Y1 D .r0 (m+1) 0 e (w.shut D.L.Ch s s d):=⟨iI,m,iI,ab⟩;have ad:∀{x:vr},woken D.P (Bn c R) e (w.shut D.L.Ch s s d) a=a->I≠0->StepB D.P D.L.k a (Bn c R) w t (JDL D F (YD 0 f .leaf L)):=λ{x} j o=>
  r7 ⟨e,_,_,T,EF f .r0 (I+(m+1)),.left _ _ Aa,kr (r7 ⟨f,.r0,I,m+1,iI,Q,S,G,h,_,A,R,_,0,a6,by rw[j];exact B.keep a1 (Wq O.1 X λj N=>Aj),o,a7,Z,λj=>absurd iI j⟩)⟩
 rcases B.status q.runA with⟨ha,o⟩|⟨ha,o⟩
 ·exact ad (x:=a) (Dz (r7 ha)) o
 ·rcases B with⟨j,_⟩|⟨_,rfl,C,rfl⟩|⟨ah,j,_⟩
  ·omega
  ·have j:woken D.P (Bn c R) e (w.shut D.L.Ch s s d) (parked (core (Bn n h)) #[rcase D.L.Ch C] (.recv km)) = { parked (core (Bn n h)) #[rcase D.L.Ch C] (.recv km) with status:=.running }:=by
    unfold woken;rw[aL (by rw[aa,J];rfl)];exact again_recv_closed Y
   obtain⟨ae,a8,b,hJ⟩:=a6.end (a:=woken D.P (Bn c R) e (w.shut D.L.Ch s s d) (parked (core (Bn n h)) #[rcase D.L.Ch C] (.recv km))) O (kr ⟨_,_,by rw[j,a1]⟩) a7 Z λj=>absurd iI j;exact r7 ⟨e,_,_,T,(0,.leaf,.leaf,a8),.left _ _ Aa,r7 ⟨a8,iI,Q,S,_,G,ae,_,A,R,_,b,hJ⟩⟩
  ·omega
def JD.step(O:D.Ok)(k:JD D F e a b w t):Af9 D F a b w t∨((a.status=.running->StepA D.P D.L.k a b w t (JDL D F e))/\(b.status=.running->StepB D.P D.L.k a b w t (JDL D F e))):=by
 rcases k with⟨M,rfl,Q,S,r,n,o,v,c,R,U,p,W⟩|⟨f,s,I,x,rfl,k⟩|⟨Z,f,i,I,x,rfl,k⟩
 ·rcases W.step (O.cfg Q r (Bn n o)) with C|⟨C,J⟩
  ·exact r7 ⟨Q,S,r,n,o,v,c,R,U,p,C⟩
  ·exact kr ⟨λY=>(C Y).mono λa b w t⟨d,K,W⟩=>⟨_,.right _ (.right _ (.right _ K)),r7 ⟨d,iI,Q,S,r,n,o,v,c,R,U,p,W⟩⟩,λY=>(J Y).mono λa b w t⟨d,K,W⟩=>⟨_,.right _ (.right _ (.right _ K)),r7 ⟨d,iI,Q,S,r,n,o,v,c,R,U,p,W⟩⟩⟩
 ·exact k.step O
 ·have g:∀a b w t,JZ D _ a b w t->JDL D F (YD (iK Z) f i (I+x)) a b w t:=λa b w t⟨y,l,T,N,j,K,H⟩=>⟨_,K,kr (kr ⟨y,l,T,N,j,iI,H⟩)⟩;refine kr ⟨λY=>(k.stepA O Y).mono g,λY=>k.stepB O Y (λQ S n h v c R U m B q L u=>?_) g⟩;subst q L u;exact m.close O B _
def JD.at(O:D.Ok)(d)(k:JD D F e a b w t):JD D F e a b (w.at d) t:=by
 rcases k with⟨M,rfl,Q,S,r,n,o,v,c,R,U,p,W⟩|⟨f,s,I,l,rfl,Q,S,n,h,v,c,R,U,j,z,B,A,C,E,g⟩|⟨Z,f,i,I,l,rfl,k⟩
 ·exact r7 ⟨M,iI,Q,S,r,n,o,v,c,R,U,p,W.at (O.cfg _ _ _) d⟩
 ·exact kr (r7 ⟨f,s,I,l,iI,Q,S,n,h,_,c,R,_,j,z.at d,B.keep iI ((Mw.RoR.refl _).at d),A,C.rely λx=>x,E,g⟩)
 ·exact kr (kr ⟨Z,f,i,I,l,iI,k.at d⟩)
def JD.mute(O:D.Ok){d u g}(x:d≠0)(q:d≠D.L.k)(L:∀m∈X,Event.mute m=km)(k:JD D F e a b w t):JD D F e a b w (t++MemOp.ofEvents d u g X):=by
 rcases k with⟨M,rfl,Q,S,r,n,o,v,c,R,U,p,W⟩|⟨f,s,I,Y,rfl,Q,S,n,h,v,c,R,U,j,z,B,A,C,E,P⟩|⟨Z,f,i,I,Y,rfl,k⟩
 ·exact r7 ⟨M,iI,Q,S,r,n,o,v,c,R,U,p,W.mute (O.cfg _ _ _) x q L⟩
 ·refine kr (r7 ⟨f,s,I,Y,iI,Q,S,n,h,v,c,R,U,j,z.tr (Wv (O.cfg Q w a) z.ti x q L _ _),B,A,C,E,λm=>let⟨H,p⟩:=P m;⟨H,p.appOther λJ T=>?_⟩⟩);obtain⟨m,N,rfl⟩:=py T;refine⟨q,λy=>?_⟩;have:=L m N;have ⟨l,wr,G⟩:=m;cases l with
  |mark K=>cases wr<;>cases G<;>simp[MemAct.ofEvent]at y<;>subst y<;>simp[Event.mute]at this
  |_=>simp[Event.mute]at this
 ·exact kr (kr ⟨Z,f,i,I,Y,iI,k.mute O x q L⟩)
def JD.wake(O:D.Ok)(x d)(k:JD D F e a b w t):∃g,JD D F g (woken D.P x d w a) (woken D.P x d w b) w t:=by
 rcases k with⟨M,rfl,Q,S,r,n,o,v,c,R,U,p,W⟩|⟨f,s,I,A,rfl,k⟩|⟨Z,f,i,I,A,rfl,k⟩
 ·have ⟨l,C⟩:=W.wake (O.cfg Q r (Bn n o)) x d;exact⟨_,r7 ⟨l,iI,Q,S,r,n,o,v,c,R,U,p,C⟩⟩
 ·have m:b.status=.running∨b.status=.finished:=by
   have ⟨Q,S,n,h,v,c,R,U,j,y,B,z,q,_⟩:=k;exact q.status
  rw[Dz (r7 k.runA),Dz m];exact⟨_,kr (r7 ⟨f,s,I,A,iI,k⟩)⟩
 ·have ⟨u,L⟩:=k.wake D.P x d;rw[u,L];exact⟨_,kr (kr ⟨Z,f,i,I,A,iI,k⟩)⟩
def JD.awake(k:JD D F e a b w t):awake a/\awake b/\(a.status=.running∨b.status=.running):=by
 have d:∀{h},(h.status=.running∨h.status=.blocked∨h.status=.finished)->Conc.awake h:=λk t l=>by
  grind
 rcases k with⟨M,rfl,Q,S,r,n,o,v,c,R,U,p,W⟩|⟨f,s,I,q,rfl,k⟩|⟨Z,f,i,I,q,rfl,k⟩
 ·exact W.awake
 ·have y:=k.runA;have ⟨Q,S,n,h,v,c,R,U,j,m,B,z,g,_⟩:=k;exact⟨d (r7 y),d (g.status.imp id kr),r7 y⟩
 ·exact k.awake
def RO(O:D.Ok){gs sl}{q:Nat->Nat}(k:gs[0]?=lj a)(y:gs[D.L.k]?=lj b)(H:Nu D.P t gs D.L.k q)(W:JD D F e a b w t):∃N I g f A j K,
   runNT D.P N (crowd gs w sl) t=(.next (crowd I f A),j)/\I.size=gs.size/\I[0]?=lj g/\g.status=.running/\(∃Q S r n o v c R U,WG D F Q S r n o v c R U/\Gf D.KA r f/\Sc D.P (Bn n o) g f)/\Aau D.ty D.L.Wg D.L.Ch f /\
   Leavers D.P j I K/\Past (λl=>D.L.Shun l∨Gw D.L.Wg l) f.1.size j:=by
 obtain⟨N,I,g,b',f,A,j,K,Y,J,E,L,⟨Q,S,r,n,o,v,c,R,U,s,i⟩,z⟩:=Ad8 (P:=D.P) (k:=D.L.k) (lt:=Rv) (J:=JD D F) (Fin:=Af9 D F) O.1.1 Adf
  (λe a b w t m d=>d.at O m) (λa b w t m⟨Q,S,r,n,o,v,c,R,U,s,d⟩=>⟨Q,S,r,n,o,v,c,R,U,s,d.back (O.cfg _ _ _) m⟩) (λe a b w t p fn P es k T X d=>d.mute O k T X) (λe a b w t h R d=>d.wake O h R) (λe a b w t d=>d.awake) (λe a b w t d=>d.step O)
  (sumTo gs.size q) e gs a b w sl t q (aC _) k y H W
 obtain⟨u,C⟩:=i.3;obtain⟨sent,V,Z,a8,a1⟩:=i.post;have a6:∃x,x∈sent:=by
  cases sent with
  |nil=>cases V
  |cons x l=>exact⟨x,Ad⟩
 obtain⟨x,a7⟩:=a6;refine⟨N,I,g,f,A,j,upd K D.L.k u,Y,J,E,i.run,⟨Q,S,r,n,o,v,c,R,U,s,a1 x a7,Z⟩,i.shut,⟨λp h B G=>?_,z.2⟩,i.past⟩;by_cases M:p=D.L.k
 ·subst M;rw[L]at G;obtain rfl:=aB G
  rwa[upd_same]
 ·rw[upd_ne K u M];exact z.old p h B M G
end
open Go.ConcN (sumTo upd sumTo_upd upd_ne upd_same)
section
variable {Y:iA} {p:gW} {d:Nat}
def Ends.forkD(s:g.status=.running)(C:∀n a6,0<a6->∃(D:M8)(F:Vl D)(Q:gW)(d a:vr),D.P=P/\D.L.k=a6/\D.L.Shun=p/\D.Ok/\stepG P km g (w.at n)=.spawn d a (w.at n) #[] /\
   (∀t,D.L.TI Q t (w.at n) 0 0->∃μ,JD D F μ d a (w.at n) t) /\
   ∀Q aa w0 n gP ab n' g' v' B,WG D F Q aa w0 n gP ab n' g' v'->Gf D.KA w0 B->Aau D.ty D.L.Wg D.L.Ch B->gP.status=.running->Ends P Y (λl=>p l∨Gw D.L.Wg l) 0 (Bn n gP) B):Ends P Y p 0 g w:=by
 suffices ad:∀J gs O sl t (q:Nat->Nat),(∃n,O=w.at n)->sumTo gs.size q<=J->gs[0]?=lj g->Leavers P t gs q->Kq p w.1.size 0 t ->
   ∃N c o B t',runNT P (N+1) (crowd gs O sl) t=(.ended o B,t')/\runN P N (crowd gs O sl)=.next c/\Go.step P c=.ended o B/\Good P Y c o B t' from
  λgs sl t q r e S=>ad _ gs w sl t q ⟨w.drawn,iI⟩ (aC _) r e S
 intro J
 induction J using Nat.strongRecOn with
 |_ J ae=>
 rintro gs O sl t q⟨n₁,rfl⟩hM r e S;have af:0<gs.size:=(aG.1 r).1;have ai:∀x∈gs,awake x:=by
  intro x G;obtain⟨i,V,rfl⟩:=gE.1 G;rcases dN i with rfl|ag
  ·have:gs[0]=g:=Aj;rw[this];exact awake_of (r7 s)
  ·exact awake_of ((e.old i _ ag (aO V)).status.elim r7 λx=>kr (kr x))
 obtain⟨i,x,n,A,V,G,k⟩:=crowd_pick (P:=P) (w:=w.at n₁) (sl:=sl) ai ⟨0,g,r,s⟩;have a7:(w.at n₁).at n=w.at n:=iI;rw[a7]at k;rcases dN i with rfl|ag
 ·obtain rfl:x=g:=by rw[r]at V;exact(aB V).symm
  obtain⟨D,F,Q,d,a,aj,ak,al,a8,hs,hJ,an⟩:=C n gs.size af;subst aj al
  let g0:=d
  have M:=runT_crowd_spawn (P:=D.P) (sl:=A) (i:=0) V (show stepG D.P (0==0) x (w.at n)=_ from hs);have am:((MemOp.ofEvents 0 x.frame.fn x.frame.place #[]).push { g:=0,fn:=x.frame.fn,pos:=x.frame.place,act:=.go gs.size }).push { g:=gs.size,fn:=a.frame.fn,pos:=x.frame.place,act:=.start }=#[({ g:=0,fn:=x.frame.fn,pos:=x.frame.place,act:=.go D.L.k }:MemOp),{ g:=D.L.k,fn:=a.frame.fn,pos:=x.frame.place,act:=.start }]:=by
   rw[ak];simp[MemOp.ofEvents]
  rw[am]at M;have b:=k.trans M;have hn:∀op∈(#[({ g:=0,fn:=x.frame.fn,pos:=x.frame.place,act:=.go D.L.k }:MemOp),{ g:=D.L.k,fn:=a.frame.fn,pos:=x.frame.place,act:=.start }]:wv),op.act≠.mark .disable/\op.act≠.mark .enable:=λop v=>by
   simp at v;rcases v with rfl|rfl<;>simp
  have aq:((gs.setIfInBounds 0 d).push a)[D.L.k]?=lj a:=by
   have h:((gs.setIfInBounds 0 d).push a)[(gs.setIfInBounds 0 d).size]?=lj a:=Array.getElem?_push_size;rw[Array.size_setIfInBounds]at h
   rwa[ak]
  obtain⟨N,ar,au,B,av,t',q',hr,U,x0,b9,⟨aw,S2,ax,n2,ay,v2,n3,g3,v3,xR,xK,xa⟩,xE,xL,xP⟩:=RO (D:=D) (F:=F) (a:=d) (b:=a) (w:=w.at n) (sl:=A) (q:=q) a8
   (gs:=(gs.setIfInBounds 0 d).push a) (t:=t++#[({ g:=0,fn:=x.frame.fn,pos:=x.frame.place,act:=.go D.L.k }:MemOp),{ g:=D.L.k,fn:=a.frame.fn,pos:=x.frame.place,act:=.start }])
   (by rw[yi (by simpa using af)];simp[af]) aq
   ⟨λj a1 f ba Z=>by
    have L:j<gs.size:=by
     have:=(aG.1 Z).1;simp at this;omega
    rw[yi Aav]at Z;rw[p9 t j _ hn];apply e.old j a1 f;have h:(gs.setIfInBounds 0 d)[j]?=lj a1:=by
     rwa[aO Aav]
    rwa[aD Aa]at h,
    λj f=>by
    rw[p9 t j _ hn];apply e.2 j;simp at f;omega⟩
   (hJ _ (Aic (C:=D.c0 Q (w.at n) g0) (w:=w.at n) (t:=t) a8.1.1 S.to (e.2 D.L.k Aa) x.frame.fn a.frame.fn x.frame.place x.frame.place)).choose_spec
  obtain⟨az,xm,b5⟩:=xa;have b6:Ends D.P Y (λl=>D.L.Shun l∨Gw D.L.Wg l) 0 au B:=Ends.goes (D:=D0) (λw1 w2 X C=>by obtain⟨rfl,rfl⟩:=C;exact⟨aC _,Ad⟩) (λg1 w1 C=>by
   obtain⟨rfl,d1,rfl⟩:=C;exact an aw S2 ax n2 ay v2 n3 g3 v3 (B.at d1) xR (xK.trans (Gf.at _ _ _)) xE az) (Xn ⟨B.drawn,iI⟩ b5)
  obtain⟨I,c,o,wf,u,H,r2,y,z⟩:=b6 ar av t' q' x0 xL (.of xP);refine⟨1+N+I,c,o,wf,u,?_,?_,y,z⟩
  ·have h:1+N+I+1=(N+(I+1))+1:=Aa
   rwa[h,runNT_succ_next b,runNT_add,hr]
  ·have h:1+N+I=(N+I)+1:=Aa
   rwa[h,runN_succ_next b,runN_add,←runNT_fst D.P _ _ (t++#[({ g:=0,fn:=x.frame.fn,pos:=x.frame.place,act:=.go D.L.k }:MemOp),{ g:=D.L.k,fn:=a.frame.fn,pos:=x.frame.place,act:=.start }]),hr]
 ·have T:=e.old i x ag V;have b7:(i==0)=sd:=Ah;have L:i<gs.size:=(aG.1 V).1;cases W:q i with
  |zero=>rw[W]at T;rw[T.1]at G;cases G
  |succ m=>
   rw[W]at T;rcases T with⟨hf,_⟩|⟨_,g',X,hm,ao,b8⟩
   ·rw[hf]at G;cases G
   have M:=runT_crowd_go (P:=P) (sl:=A) (i:=i) V (by rw[b7];exact ao (w.at n));have bb:sumTo gs.size (upd q i m)+(m+1)=sumTo gs.size q+m:=by
    exact A33
   have E:((gs.map (woken P x g' (w.at n))).setIfInBounds i g').size=gs.size:=Ad;obtain⟨N,c,o,wf,u,H,r2,y,z⟩:=ae (sumTo gs.size (upd q i m)) Aa ((gs.map (woken P x g' (w.at n))).setIfInBounds i g') (w.at n) A (t++MemOp.ofEvents i x.frame.fn x.frame.place X) (upd q i m) ⟨n,iI⟩ Af5
    (by rw[aD Aa,aN,r];simp[woken_run s])
    ⟨λj a1 f Z=>by
     by_cases R:i=j
     ·exact L03
     ·rw[aD R,aN]at Z;obtain⟨K,U,rfl⟩:=bB.1 Z;have ah:=e.old j K f U
      rwa[woken_quitsD ah,upd_ne q m (dG R),zl t R _ (λop v=>B9 v)],λj f=>by
     rw[zl t (g':=i) (by simp at f;omega) _ (λop v=>B9 v)];exact e.2 j (by simpa using f)⟩ (S.mute Aa hm)
   exact Xi1
end
structure FX(S:gW):Prop where
 cell:∀a a':Addr,S (.cell a)->a'.block=a.block->S (.cell a')
 obj:∀r,¬S (.obj r)
def FX.wg{S}(h:FX S)(q):FX λl=>S l∨Gw q l:=⟨λb a d e=>by
 rcases d with d|⟨c,D,E⟩
 ·exact r7 (h.cell b a d e)
 ·cases D;exact kr ⟨a,iI,e.trans E⟩,λr Y=>by
 rcases Y with Y|⟨c,D,_⟩
 ·exact h.obj r Y
 ·cases D⟩
structure E2 where
 post:uo->gk->Prop
 In:Loc->Prop
 W0:gk
 ex:∀a,In (.cell a)->∃x,W0.cell? a=lj x
 exO:∀r,In (.obj r)->∃o,W0.1[r]?=lj o/\Cj o
 exM:∀l,In l->(∃a,l=.cell a)∨∃r,l=.obj r
 num:Nat
 nf:Nat->Nat
structure E2.Kept(H:E2)(w:gk):Prop where
 cell:∀a,H.In (.cell a)->w.cell? a=H.3.cell? a
 row:∀r(c:gY)e(fz:Nat×Nat),H.3.1[r]?=lj (oh c e fz)->(c=#[]∨∃j,H.In (.cell (iD r j)))->∃c',w.1[r]?=lj (oh c' e fz)/\c'.size=c.size
 obj:∀r(o:Obj),H.In (.obj r)->H.3.1[r]?=lj o->Cj o->w.1[r]?=lj o
def E2.Kept.low{H:E2}(h:H.Kept w)(K:H.In l):My w.1.size l:=by
 rcases H.6 l K with⟨a,rfl⟩|⟨r,rfl⟩
 ·have ⟨x,Z⟩:=H.ex a K;rw[←h.cell a K]at Z;exact Ki Z
 ·have ⟨o,O,z⟩:=H.5 r K;exact(aG.1 (h.obj r o K O z)).1
def E2.Kept.at{H:E2}(h:H.Kept w)(d):H.Kept (w.at d):=⟨h.cell,h.row,h.obj⟩
def E2.Kept.frame{H:E2}{B}(h:H.Kept w)(f:Dd w B L)(N:∀e∈L,e.write=km->¬H.In e.loc):H.Kept B:=
 ⟨λa d=>(f.cell a (h.low d) λe Z W K=>N e Z W (K▸d)).trans (h.cell a d),λr c e b Y V=>by
  have ⟨Q,C,J⟩:=h.row r c e b Y V;have ⟨R,T,q⟩:=f.row r Q e b C
  grind,λr o Y O z=>f.obj r o (h.obj r o Y O z) z λe Z W K=>N e Z W (K▸Y)⟩
def E2.Kept.ror{H:E2}{C:Mw}{B}(h:H.Kept w)(Y:C.RoR w B)(V:∀l,H.In l->C.5 l):H.Kept B:=
 ⟨λa d=>(Y.cell a (V _ d) (h.low d)).trans (h.cell a d),λr c e b Z M=>by
  have ⟨Q,f,J⟩:=h.row r c e b Z M;have ⟨R,T,q⟩:=Y.row r Q e b f
  grind,λr o Z O z=>Y.obj r o (V _ Z) (h.obj r o Z O z) z⟩
def E2.Own(H:E2)(Shun:gW)(l:Loc):Prop:=¬Shun l/\¬H.In l
structure E2.Shd(H:E2)(w:gk)(Shun:gW)(n):Prop where
 low:∀l,Shun l->My w.1.size l
 blk:FX Shun
 off:∀l,Shun l->¬H.In l
 kept:H.Kept w
 nn:∀i,i<H.num->sh n i=H.nf i/\H.nf i<iL w.1
def E2.Shd.at{H:E2}{p}(h:H.Shd w p n)(d):H.Shd (w.at d) p n:=⟨h.low,h.blk,h.off,h.kept.at d,h.nn⟩
def EN(P:im)(Post:E2)(J:gW)(g:vr)(v:gk):Prop:=
 ∀n(w:gk)Shun,Di P n J (Post.Own Shun) g v w->Post.Shd w Shun n->Ends P Post.post Shun 0 (Bn n g) w
section
variable {Y:E2} {J U:gW}
def EN.ofT:∀{T} {g} {v},FwT P km J (EN P Y J) T g v->EN P Y J g v:=by
 intro T
 induction T with
 |leaf=>exact λ{g v} h=>h.2 v.drawn
 |node f O=>
  intro g v h n w p k H;have ⟨_,s,I⟩:=h;refine Ends.step s λd=>?_;have ⟨a,U,E,F⟩:=I d;have ⟨B,X,L,C,j,b,q,z⟩:=(k.at d).step E (λ_ _ h=>h) λl R=>⟨λZ=>Ee (aC _) (H.low l Z) R,λZ=>Ee (aC _) (H.kept.low Z) R⟩;refine⟨Bn n a,B,X,C,b.size,λe N=>⟨λx Z H=>by
   rcases Vu (q e (z e N)) Z with C|⟨r,_,_,C⟩
   ·exact absurd H C.1
   ·rw[C];simp,GO (q e (z e N))⟩,?_⟩
  rw[vi λe N=>Vt (q e (z e N))];exact O d F n B p j ⟨λl Z=>Ja b.size (H.low l Z),H.blk,H.off,(H.kept.at d).frame b λe N W=>by
   rcases Nc (q e N) W with⟨x,_⟩|⟨m,x⟩
   ·exact x.2
   ·rw[x];exact λV=>(by rcases Y.6 _ V with⟨c,e⟩|⟨r,e⟩<;>cases e),λi V=>⟨(H.nn i V).1,aA (H.nn i V).2 b.size⟩⟩
def EN.ret(s:h.status=.running)(a:∀n w p,Di P n J (Y.Own p) h v w->Y.Shd w p n->∃x,(∀d,stepG P km (Bn n h) (w.at d)=.ended (.done x) (w.at d) #[])/\∀d,Y.post x (w.at d)):EN P Y J h v:=λn w p b H=>
 Ends.ret s λd=>let⟨x,C,c⟩:=a n w p b H;⟨x,#[],C d,Ad,c d⟩
def Di.recast{a G B}(c:Di P n J a h v w)(N:iL G.1=iL v.1)(W:iL w.1<=iL B.1)(d:B.tape=G.tape)(y:B.drawn=G.drawn)(O:B.os=G.os)(Q:B.output=G.output)(H:iL B.1=iL w.1)(K:∀i o,G.1[i]?=lj o->∃I,B.1[sh n i]?=lj I/\LikeO n U i o I)(e:Wf U R G)(f:∀l,Iu G l->¬U l->b (Ge n l)):Di P n U b R G B:=
 ⟨λt=>⟨λj g=>by rw[N,H];exact(c.sm (iL v.1+j+1)).top j Aa,λi V=>by rw[H];exact(c.sm 0).lt i Aa,λi V=>by rw[H];exact(c.sm 0).out i Aa,K,d,y,O,Q⟩,c.fix,by rw[N];exact c.glob,e,f⟩
end
def WG.sides{D F g a b t}(h:WG D F Q S g n t v b R U)(E:Gf D.KA g a)(N:Aau D.ty D.L.Wg D.L.Ch a):∃L,Dd g a L/\∀e∈L,Gw D.L.Wg e.loc∨e.loc=.obj D.L.Ch:=by
 obtain⟨⟨x,w,m⟩,W,B,y,j⟩:=N;obtain⟨H,u,G⟩:=h.wg;obtain⟨s,r,d,M⟩:=h.ch;unfold Dx JK at G m;have I:∀i,i≠D.L.Wg->i≠D.L.Ch->i<iL g.1->a.1[i]?=g.1[i]?:=λi C J V=>by
  have e:g.1[i]?=lj g.1[i]:=aO V;rw[e];exact E.keep i _ e ⟨C,J⟩
 refine⟨#[⟨.cell (iC D.L.Wg),km,km⟩,⟨.cell (iD D.L.Wg 1),km,km⟩,⟨.obj D.L.Ch,km,km⟩],⟨E.size,λc K z=>?_,λi o O f z=>?_,λi k e A V=>?_,λi o O f=>?_,E.tape,E.os,E.output⟩,λe Z=>?_⟩
 ·by_cases C:c.block=D.L.Wg
  ·obtain⟨p,o,l⟩:=c;simp only at C;subst C;cases l with
   |some q=>simp[ur,G,m]
   |none=>
    have J:2<=o:=by
     rcases o with _|_|o
     ·exact absurd iI (z ⟨.cell (iC D.L.Wg),km,km⟩ Ad iI)
     ·exact absurd iI (z ⟨.cell (iD D.L.Wg 1),km,km⟩ Ad iI)
     ·omega
    rw[Ci m o,Ci G o,cR (by simpa using J),cR (by simpa using J)]
  ·by_cases J:c.block=D.L.Ch
   ·unfold ur;rw[J,M,j]
   ·unfold ur;rw[I _ C J K]
 ·have C:i≠D.L.Wg:=λe=>by subst e;rw[G]at O;exact f _ _ _ (aB O).symm
  have J:i≠D.L.Ch:=λe=>by subst e;exact z ⟨.obj D.L.Ch,km,km⟩ Ad iI iI
  exact E.keep i o O ⟨C,J⟩
 ·by_cases C:i=D.L.Wg
  ·subst C;rw[G]at V;simp at V;obtain⟨rfl,rfl,rfl⟩:=V;exact⟨_,m,Ad⟩
  ·have J:i≠D.L.Ch:=λe=>by subst e;rw[M]at V;cases V
   exact⟨k,E.keep i _ V ⟨C,J⟩,iI⟩
 ·by_cases J:i=D.L.Ch
  ·subst J;have e:o=.chan 0 #[] km s r d:=aB (O.symm.trans M);exact⟨_,j,λ_ _ _ e=>HL,by rw[e];rfl⟩
  ·exact⟨o,E.keep i o O ⟨(λe=>by subst e;rw[G]at O;exact f _ _ _ (aB O).symm),J⟩,f,iI⟩
 ·simp at Z;rcases Z with rfl|rfl|rfl
  ·exact r7 ⟨_,iI,iI⟩
  ·exact r7 ⟨_,iI,iI⟩
  ·exact kr iI
def WG.last{D}(O:D.Ok){F r B a o}(q:WG D F Q S r n o v a R U)(f:Gf D.KA r B)(b:Aau D.ty D.L.Wg D.L.Ch B):∃u d,WG D F Q S B u o (v.at B.drawn) d R (U.at B.drawn)/\Bn u o=Bn n o:=by
 have ⟨L,X,N⟩:=q.sides f b;have ⟨u,y,G,W⟩:=q.sa.other X (λe Z _ _ c=>(N e Z).elim c.2.2.1 c.2.2.2.1) λ_ _ q=>q;have ⟨d,h,j,E⟩:=q.sb.other X (λe Z _ _ c=>(N e Z).elim c.2.2.1 c.2.2.2.1) λ_ _ q=>q;exact⟨u,d,⟨aE q.1 X.size,λl K=>Ja X.size (q.kb l K),y,h,q.pa,q.6,F.atA _ _ _ q.7,F.4 _ _ _ q.eb,⟨q.ca.1,by rw[W _ q.ca.1];exact q.ca.2⟩,⟨q.cb.1,by rw[E _ q.cb.1];exact q.cb.2⟩,⟨q.ga.1,by rw[W _ q.ga.1];exact q.ga.2⟩,⟨q.gb.1,by rw[E _ q.gb.1];exact q.gb.2⟩,q.hN,⟨q.same.1,λg V=>by rw[W g (aA V q.same.1)];exact q.same.2.1 g V,λg V=>by rw[E g (aA V q.hN)];exact q.same.2.2.1 g V,q.same.2.2.2.trans (Wq O.1 X N)⟩,
  λg i V k P H=>by rw[W g V,E i P];exact q.disj g i V k P H,λi k P=>by rw[E i P];exact q.new i k P,b.1,b.2⟩,G⟩
def Ends.forkE{Y}{p:gW}(s:g.status=.running)(h:∀n k,0<k->∃(D:M8)(F:Vl D)(Q:gW)(a b:vr),D.P=P/\D.L.k=k/\D.L.Shun=p/\D.Ok/\stepG P km g (w.at n)=.spawn a b (w.at n) #[] /\
   (∀t,D.L.TI Q t (w.at n) 0 0->∃d,JD D F d a b (w.at n) t) /\
   ∀Q S n o v c R U B,WG D F Q S B n o v c R U->o.status=.running->Ends P Y (λl=>p l∨Gw D.L.Wg l) 0 (Bn n o) B):=
 Ends.forkD s λn k E=>by
  obtain⟨D,F,Q,a,b,C,J,T,q,z,f,M⟩:=h n k E;refine⟨D,F,Q,a,b,C,J,T,q,z,f,λQ S x n o v c R U B e i j G=>?_⟩;obtain⟨u,m,N,r⟩:=e.last q i j;rw[←r];exact M Q S u o _ m R _ B N G
section
variable {J Own:gW}
def Di.reveal(f:Di P n J Own h v e){i off}{c:gY}{a b}(Y:v.1[i]?=lj (oh c a b))(O:off<c.size){x}(Z:Az (.up v.1.size) x=x)(A:e.cell? ⟨sh n i,off,jh⟩=lj (Az n x)):Di P n (λl=>J l/\l≠.cell (iD i off)) (λl=>Own l∨l=.cell ⟨sh n i,off,jh⟩) h (v.setCell (iD i off) x) e:=by
 have V:=(aG.1 Y).1;have N:(v.setCell (iD i off) x).1.size=iL v.1:=size_setCell _ _ _;have o:∀j q,(v.setCell (iD i off) x).1[j]?=lj q->(j=i/\q=oh (c.setIfInBounds off x) a b)∨(j≠i/\v.1[j]?=lj q):=λj q k=>by
  rw[heap_setCell]at k
  grind
 have row:∀m(I:Obj),LikeO m J i (oh c a b) I->(∀B,I=oh B a b->B[off]?=lj (Az m x))->LikeO m (λl=>J l/\l≠.cell (iD i off)) i (oh (c.setIfInBounds off x) a b) I:=λm I K M=>by
  have w:∀B,I=oh B a b->B.size=c.size->(∀j,¬J (.cell (iD i j))->B[j]?=(c[j]?).map (Az m))->LikeO m (λl=>J l/\l≠.cell (iD i off)) i (oh (c.setIfInBounds off x) a b) I:=λB S L G=>by
   refine kr (r7 ⟨_,B,a,b,iI,S,Aav,λj k=>?_⟩);by_cases ej:off=j
   ·grind
   grind
  rcases K with rfl|⟨s,B,E,H,C,g,T,p⟩|⟨_,C,_⟩|⟨B,E,H,C,g⟩
  ·exact w _ iI Ad λj _=>aN ..
  ·grind
  ·exact absurd iI (C _ _ _)
  grind
 have r:∀m(j:Nat)q I,j≠i->LikeO m J j q I->LikeO m (λl=>J l/\l≠.cell (iD i off)) j q I:=λm j q I k K=>by
  rcases K with C|⟨s,B,E,H,C,g,T,p⟩|⟨u,C,g⟩|C
  ·exact r7 C
  ·refine kr (r7 ⟨s,B,E,H,C,g,T,λd Q=>p d λW=>Q ⟨W,λa=>k ?_⟩⟩);injection a with a;injection a with a _ _
  ·exact kr (kr (r7 ⟨⟨⟨u.1,Ad⟩,u.2⟩,C,g⟩))
  ·exact kr (kr (kr C))
 refine f.recast N (aC _) (f.sm 0).tape (f.sm 0).drawn (f.sm 0).os (f.sm 0).output iI (λj q k=>?_) ⟨λj q k=>?_,by rw[N];exact f.wf.2⟩ λl K k=>?_
 ·rcases o j q k with⟨rfl,rfl⟩|⟨C,g⟩
  ·obtain⟨I,T,p⟩:=(f.sm 0).4 _ _ Y;refine⟨I,T,row n I p λB S=>?_⟩;subst S
   rwa[←Ci T off]
  ·obtain⟨I,T,p⟩:=(f.sm 0).4 _ _ g;exact⟨I,T,r n j q I C p⟩
 ·rw[N];rcases o j q k with⟨rfl,rfl⟩|⟨C,g⟩
  ·rcases f.wf.mem _ _ Y with d|⟨s,B,E,H,F,z,q3,X⟩|⟨_,d,_⟩|⟨B,E,H,F,z⟩
   ·refine kr (r7 ⟨_,_,a,b,iI,iI,iI,λy U=>?_⟩);simp only[Dq]at d;injection d with d _ _;by_cases D:off=y
    ·subst D;simp[O,Z]
    ·rw[aD D]
     conv=>lhs;rw[d]
     exact aN ..
   ·cases F;cases z;refine kr (r7 ⟨_,_,a,b,iI,iI,iI,λy U=>?_⟩);by_cases D:off=y
    ·subst D;simp[O,Z]
    ·rw[aD D];refine X y λW=>U ⟨W,λd=>D ?_⟩;injection d with d;injection d with _ d _;exact d.symm
   ·exact absurd iI (d _ _ _)
   ·injection F with d _ _;subst d;simp at O
  ·exact r _ j q q C (f.wf.mem j q g)
 ·by_cases R:l=.cell (iD i off)
  ·subst R;exact kr iI
  ·refine r7 (f.own l ?_ λW=>k ⟨W,R⟩);have:=Ti (v:=v) (v':=v.setCell (iD i off) x) (Gd v (iD i off) x km) K;rcases this with y|y
   ·exact y
   ·exfalso;cases l with
    |cell t=>
     obtain⟨d,Q⟩:=K;have:=Ki Q;rw[N]at this;have:iL v.1<=t.block:=y;omega
    |obj t=>
     obtain⟨d,Q,_⟩:=K;have:=(aG.1 Q).1;rw[N]at this;have:iL v.1<=t:=y;omega
    |_=>exact K.elim
end
section
variable {J Own:gW}
def Di.unblank(f:Di P n J Own h v e){a d}(Y:v.1[i]?=lj (oh #[] a d)){c:gY}(Z:c.map (Az (.up v.1.size))=c)(W:e.1[sh n i]?=lj (oh (c.map (Az n)) a d)):Di P n J (λl=>Own l∨M9 (sh n i) l) h { v with heap:=v.1.setIfInBounds i (oh c a d) } e:=by
 have N:({ v with heap:=v.1.setIfInBounds i (oh c a d) }:gk).1.size=iL v.1:=Ad;have o:∀j q,({ v with heap:=v.1.setIfInBounds i (oh c a d) }:gk).1[j]?=lj q->(j=i/\q=oh c a d)∨(j≠i/\v.1[j]?=lj q):=λj q k=>by
  grind
 refine f.recast N (aC _) (f.sm 0).tape (f.sm 0).drawn (f.sm 0).os (f.sm 0).output iI (λj q k=>?_) ⟨λj q k=>?_,by rw[N];exact f.wf.2⟩ λl K k=>?_
 ·rcases o j q k with⟨rfl,rfl⟩|⟨C,g⟩
  ·exact⟨_,W,r7 iI⟩
  ·exact(f.sm 0).4 _ _ g
 ·rw[N];rcases o j q k with⟨rfl,rfl⟩|⟨C,g⟩
  ·exact r7 (by simp only[Dq];rw[Z])
  ·exact f.wf.mem j q g
 ·cases l with
  |cell b=>
   by_cases R:b.block=i
   ·exact kr (by show sh n b.block=sh n i;rw[R])
   ·refine r7 (f.own _ ?_ k);have ⟨x,Z⟩:=K;refine⟨x,?_⟩;unfold ur at Z⊢
    grind
  |obj r=>
   have ⟨q,O,M⟩:=K;rcases o r q O with⟨rfl,rfl⟩|⟨_,g⟩
   ·exact absurd iI (M _ _ _)
   ·exact r7 (f.own (.obj r) ⟨q,g,M⟩ k)
  |_=>exact K.elim
end
def LikeO.monoJ{J U o I}(W:∀l,J l->U l)(h:LikeO n J i o I):LikeO n U i o I:=by
 rcases h with h|⟨c,B,e,b,C,a,T,q⟩|⟨F,C,a⟩|h
 ·exact r7 h
 ·exact kr (r7 ⟨c,B,e,b,C,a,T,λj d=>q j λx=>d (W _ x)⟩)
 ·exact kr (kr (r7 ⟨⟨W _ F.1,F.2⟩,C,a⟩))
 ·exact kr (kr (kr h))
def Di.less{J J' a Own' g'}(h:Di P n J a g v w)(W:∀l,J l->J' l)(G:Bn (.up v.1.size) g'=g')(H:∀l,Iu v l->¬J' l->a (Ge n l)->Own' (Ge n l)):Di P n J' Own' g' v w:=
 ⟨λt=>let s:=h.sm t;⟨s.top,s.lt,s.out,λi o O=>let⟨I,C,d⟩:=s.4 i o O;⟨I,C,d.monoJ W⟩,s.tape,s.drawn,s.os,s.output⟩,h.fix,h.glob,⟨λi o O=>(h.wf.mem i o O).monoJ W,G⟩,λl K c=>H l K c (h.own l K λx=>c (W l x))⟩
def JD.start{D F ms n n' g g' b v v' mA mB}(f:D.low<=iL w.1)(B:∀l,Q l->My w.1.size l)(e:Di D.P n D.JA (D.L.A Q) g v w)(d:Di D.P n' D.JB (D.L.B Q) g' v' w)(c:Fw D.P km D.JA (ScA D ms) g v)(I:Fw D.P sd D.JB (ScB D ms λ_=>False) g' v')(N:iL v.1=D.8)(L:iL v'.1=D.9)(k:∀i,i<D.8->sh n i=D.fA i)(m:∀i,i<D.9->sh n' i=D.fB i)(p:D.L.RoR D.w0 w)(M:D.4<D.8/\sh n D.4=D.L.Ch)(G:D.5<D.8/\sh n D.5=D.L.Wg)(h:D.6<D.9/\sh n' D.6=D.L.Ch)(o:D.7<D.9/\sh n' D.7=D.L.Wg)(z:∃s j,w.1[D.L.Ch]?=lj (.chan 0 #[] sd s s j))(q:Dx D.ty D.L.Wg w KK 0)(y:o2 D.P km D.L.RoR D.L.DRo (λx _=>x=Bn n g/\g.status=.running) mA a w)(A:o2 D.P sd D.L.RoR D.L.DRo (λx _=>x=Bn n' g'/\g'.status=.running) mB b w):∀t,D.L.TI Q t w 0 0->∃r,JD D F r a b w t:=λt C=>by
 have ⟨E,c⟩:=c;have ⟨u,I⟩:=I;exact⟨_,kr (kr ⟨ms,E,u,mA+2,mB+2,iI,Q,λ_=>False,n,g,v,n',g',v',⟨f,B,e,d,c,I,⟨Aa,M.2⟩,⟨Aa,h.2⟩,⟨Aa,G.2⟩,⟨Aa,o.2⟩,Aa,⟨Aa,k,m,p⟩,λi H _ K J _=>Aa,λH K J=>Aa,C,z,q⟩,kr (kr ⟨mA,iI,y⟩),kr (kr ⟨mB,iI,A⟩),Aa⟩)⟩
def EN.fork{Y J}(s:g.status=.running)(h:∀n(w:gk)(p:gW)k d,0<k->Di P n J (Y.Own p) g (v.at d) w->Y.Shd w p n->∃(D:M8)(F:Vl D)(Q:gW)(a b:vr),D.P=P/\D.L.k=k/\D.L.Shun=p/\D.Ok/\stepG P km (Bn n g) w=.spawn a b w #[] /\
   (∀t,D.L.TI Q t w 0 0->∃c,JD D F c a b w t) /\
   ∀Q S n o v e R U B,WG D F Q S B n o v e R U->o.status=.running->Ends P Y.post (λl=>p l∨Gw D.L.Wg l) 0 (Bn n o) B):EN P Y J g v:=λn w p f H=>
 Ends.forkE s λd k E=>h n _ p k d E (f.at d) (H.at d)
def Ren.ofList(l:hZ)(W)(hn:l.Nodup)(hl:∀x∈l,x<W):Ren where
 f i:=if h:i<iK l then l[i] else W+(i - iK l)
 inj:=λ{i j} e=>by
  by_cases hi:i<iK l
  ·by_cases hj:j<iK l
   ·simp only[hi,hj,dite_true]at e;exact(List.getElem_inj hn).1 e
   ·simp only[hi,hj,dite_true,dite_false]at e;have:=hl l[i] (eN hi);omega
  ·by_cases hj:j<iK l
   ·simp only[hi,hj,dite_true,dite_false]at e;have:=hl l[j] (eN hj);omega
   ·simp only[hi,hj,dite_false]at e;omega
section
variable {l:hZ} {W:Nat} {z:l.Nodup} {K:∀x∈l,x<W}
def Wc(h:i<iK l):sh (Ren.ofList l W z K) i=l[i]:=by simp[sh,Ren.ofList,h]
def Wa{x}(h:l[i]?=lj x):sh (Ren.ofList l W z K) i=x:=by
 have ⟨C,J⟩:=aF.1 h;rw[Wc C,J]
def EH(h:iK l<=i):sh (Ren.ofList l W z K) i=W+(i - iK l):=by simp[sh,Ren.ofList,Nat.not_lt.2 h]
end
def Di.ofList{l:hZ}{J}(z)(K:∀x∈l,x<iL w.1)(N:iL v.1=iK l)(R:w.tape=v.tape)(y:w.drawn=v.drawn)(O:w.os=v.os)(Q:w.output=v.output)(a:∀i r(o:Obj),l[i]?=lj r->v.1[i]?=lj o->∃I,w.1[r]?=lj I/\LikeO (Ren.ofList l w.1.size z K) J i o I)(G:∀i,i<P.globals.size->l[i]?=lj i)(c:Wf J g v)(d:∀q,Iu v q->¬J q->b (Ge (Ren.ofList l w.1.size z K) q)):Di P (Ren.ofList l w.1.size z K) J b g v w:=by
 refine⟨λt=>⟨λj _=>?_,λi V=>?_,λi V=>?_,λi o V=>?_,R,y,O,Q⟩,λi V=>Wa (G i V),?_,c,d⟩
 ·rw[N,EH Aa];omega
 ·rw[N]at V;rw[Wc V]
  simp_all
 ·rw[N]at V;rw[EH V];omega
 ·have Y:i<iK l:=Aj;rw[Wc Y];exact a i _ o (aH Y) V
 grind
section
variable {J:gW} {F:vr->gk->Prop} {d:x8} {Q:Exit->Act->gk->Prop} {a:Act} {g:Array ox} {l:hZ}
def Ad1{f x}{cap:gY}{PostF}(O:g[i]?=lj o)(a1:qy o (iu g a.tmps)=km)(T:o.op=.call { callee:=.value x,args,argTypes:=m })(Z:a.eval x=.func (.func f) #[] cap)(Y:Eh P.globals.size x=km)(S:args.all (Eh P.globals.size)=km)(c:Bg P main J F f (args.map a.eval++cap) e PostF)(w:∀v B,PostF v B->opsV P main J F d g l Q (a.put o.dst v) B):opsV P main J F d g (i::l) Q a e:=by
 have N:=c;obtain⟨y,a6,C,s,A,_⟩:=N;have V:y.body.isNone=sd:=by rw[A];rfl
 have q:∀(a:Act)cap,a.eval x=.func (.func f) #[] cap->execOp a.eval o=zo f (args.map a.eval++cap):=λa cap Z=>by
  unfold execOp;rw[T]
  show(k9 (a.eval x) (args.map a.eval) >>= λj=>lx j.target j.args)=_;exact Ius
 have M:∀h:Array uo,∀e:gk,(zo f h).runT P e #[]=(.ok (.enter f h) e,#[]):=λh e=>by
  unfold zo
  show(match P.funcs[f]? with|none=>_|some d=>_:Sem Next).runT P e #[]=_;rw[C];dsimp only;rw[s,V]
  rfl
 have r:∀n,n.Fix P.globals.size->(Bw n a).eval x=.func (.func f) #[] (cap.map (Az n)):=λn p=>by rw[Hb p a x Y,Z];simp[Mq]
 have u:∀n(p:n.Fix P.globals.size),args.map (Bw n a).eval=(args.map a.eval).map (Az n):=λn p=>Jg (λG U=>Hb p a G U) args S;intro b k z D E H;have t:∀v,(b.at a (.inRegion g (i::l)::k)).finish v=b.at (a.put o.dst v) (.inRegion g l::k):=λv=>by rw[Frame.finish_at,O];rfl
 obtain⟨f2,a7,X,a8,I,K⟩:=c;refine EV.ctl (K (b.at a (.inRegion g (i::l)::k)) z iI λv B L=>by rw[t];exact w v B L b k z D E H) iI iI λn e p=>?_
 rw[Ep,Gn];have U:iu g (Bw n a).tmps=iu g a.tmps:=E1 g a.tmps;obtain⟨r1,r2⟩:=Lm (M ((args.map a.eval).map (Az n)++cap.map (Az n)) e);have R:(execOp (Bw n a).eval o).run P e=.ok (.enter f ((args.map a.eval++cap).map (Az n))) e:=by rwa[q _ _ (r n p),u n p,dC]
 have W:(execOp (Bw n a).eval o).events P e #[]=#[]:=by rwa[q _ _ (r n p),u n p]
 have:=stepG_enter (P:=P) (main:=main) (b:=b) (a:=Bw n a) (k:=k.map (Df n)) (cs:=z.map (Bj n)) (rest:=l) O (by rwa[U]) (by rw[E];decide) R;rw[show oo (Df n) (.inRegion g (i::l)::k)=.inRegion g (i::l)::k.map (Df n) from iI,this,J9,enter_at _ X I];unfold listed;rw[W,qm]
 rfl
end
open Go.ConcX.Gen Go.RowKit Go.Conc.Lib
variable {D:M8} {L:WgLink}
def Ay{K}(h:D9 D.ty D.L.Wg w)(r:D.RW w K):=r h
set_option maxHeartbeats 4000000 in
def Agg(H:WgLib D.P L)(v:D.ty=L.30){e:Frame}{j o n}{t:hZ}{l cs a}(V:QuitsD D.P a 0 (G (e.at (j.put ((o[n]?).bind (·.dst)) (js #[])) (.inRegion o t::l)) cs))(w)(p:D9 D.ty D.L.Wg w):o2 D.P sd D.RW D0 (WR0 D) 100 (G ((base L.add).at ⟨#[iB D.L.Wg,iE (-1)]++jj 115 qp,[]⟩ [.code (Qy L)]) (e.at j (.inRegion o (n::t)::l)::cs)) w:=by
 lib_facts
 simp only[Qy,addFn,aY,dE,dO,eJ,dV,bW,cK];have C:∀{w} {st sm},Dx D.ty D.L.Wg w st sm->w.cell? (iC D.L.Wg)=lj (uu .u64 st)/\w.frozen? (iC D.L.Wg)=sd/\w.cell? (iD D.L.Wg 1)=lj (uu .u32 sm)/\w.frozen? (iD D.L.Wg 1)=sd:=λh=>by
  exact Fmx
 u_c qd Ay p
 u_cond km Ay p
 u_c qd Ay p
 u_c qd Ay p
 u_reg Ay p
 u_op Ay p
 u_op Ay p
 u_c zr Ay p
 u_cond km Ay p
 u_reg Ay p
 u_op Ay p
 u_in Ay p
 refine goes_oper_k iI iI (by k_ne) (λN M=>?_);have E:=run_convert_to_unsafe (P:=D.P) H.27 H.32 H.112 (D9.cell0 p).choose_spec;have J:=λX=>events_convert_to_unsafe (P:=D.P) H.27 H.32 H.112 (D9.cell0 p).choose_spec X;go_simp;refine M _ _ ⟨?_,?_⟩
 ·exact Qr8
 clear M N E J;refine ze (λK U=>?_);replace p:=Ay p U;clear U;refine⟨iI,_,stepG_markAt .releaseMerge Ad iI iI (by k_ne) iI H.4 (x_relMerge_n L) (x_relMerge_b L) (x_relMerge_x L) (x_relMerge_f L) Agc,100,?_⟩;walk_nrm
 u_c zr Ay p
 u_c qd Ay p
 u_reg Ay p
 refine ze (λK U=>?_);replace p:=Ay p U;clear U;refine⟨iI,_,stepG_mark0 .disable Ad iI iI (by k_ne) iI H.5 (x_disable_n L) (x_disable_b L) (x_disable_x L) (x_disable_f L),100,?_⟩;walk_nrm
 u_c zr Ay p
 u_reg Ay p
 u_defer Ay p
 u_c zr Ay p
 u_c qd Ay p
 u_reg Ay p
 u_op Ay p
 u_c zr Ay p
 u_c qd Ay p
 u_c qd Ay p
 u_reg Ay p
 u_bub Ay p
 u_c zr Ay p
 u_cond sd Ay p
 u_c y8 Ay p
 u_c qd Ay p
 u_reg Ay p
 u_op Ay p
 u_op Ay p
 u_op Ay p
 u_op Ay p
 u_op Ay p
 u_op Ay p
 u_call H.11 (nm_uAdd L) uAddFn Ay p
 u_c qd Ay p
 u_reg Ay p
 u_op Ay p
 u_c zr Ay p
 u_c qd Ay p
 u_reg Ay p
 u_op Ay p
 u_op Ay p
 u_op Ay p
 u_op Ay p
 refine ze (λK U=>?_);replace p:=Ay p U;clear U;have F:IntKind.u64.wrap (KK+18446744069414584320)=0:=Ae;have S:IntKind.u64.wrap (KK+1+18446744069414584320)=1:=Ae;refine⟨iI,λW=>?_,λW=>?_⟩
 ·refine⟨_,(stepG_add_atomic iI iI (by k_ne) iI H.23 (x_addU64_n L) (x_addU64_b L) (x_addU64_x L) .u64 (x_addU64_f L) iI iI (C W).1 (C W).2.1).trans (by rw[F];rfl),a+89,?_⟩;walk_nrm;clear p W;apply vq _ iI iI (by k_ne)
  ·intro w;go_simp;(try w_num);exact iI
  ·intro w;simp[go_sem, *]
  walk_nrm
  q_c zr
  q_c wc
  q_leave1 H.11
  apply vq _ iI iI (by k_ne)
  ·intro w;go_simp;(try w_num);exact iI
  ·intro w;simp[go_sem, *]
  walk_nrm
  q_c zr
  q_c qd
  q_c qd
  q_reg
  apply vq _ iI iI (by k_ne)
  ·intro w;go_simp;(try w_num);exact iI
  ·intro w;simp[go_sem, *]
  walk_nrm;apply vq _ iI iI (by k_ne)
  ·intro w;go_simp;(try w_num);exact iI
  ·intro w;simp[go_sem, *]
  walk_nrm;apply vq _ iI iI (by k_ne)
  ·intro w;go_simp;(try w_num);exact iI
  ·intro w;simp[go_sem, *]
  walk_nrm;apply vq _ iI iI (by k_ne)
  ·intro w;go_simp;(try w_num);exact iI
  ·intro w;simp[go_sem, *]
  walk_nrm
  q_skip
  q_skip
  apply vq _ iI iI (by k_ne)
  ·intro w;go_simp;(try w_num);exact iI
  ·intro w;simp[go_sem, *]
  walk_nrm
  q_c zr
  q_cond sd
  q_c y8
  q_c qd
  q_reg
  apply vq _ iI iI (by k_ne)
  ·intro w;go_simp;(try w_num);exact iI
  ·intro w;simp[go_sem, *]
  walk_nrm;apply vq _ iI iI (by k_ne)
  ·intro w;go_simp;(try w_num);exact iI
  ·intro w;simp[go_sem, *]
  walk_nrm;apply vq _ iI iI (by k_ne)
  ·intro w;go_simp;(try w_num);exact iI
  ·intro w;simp[go_sem, *]
  walk_nrm;apply vq _ iI iI (by k_ne)
  ·intro w;go_simp;(try w_num);exact iI
  ·intro w;simp[go_sem, *]
  walk_nrm
  q_c zr
  q_c qd
  q_reg
  apply vq _ iI iI (by k_ne)
  ·intro w;go_simp;(try w_num);exact iI
  ·intro w;simp[go_sem, *]
  walk_nrm;apply vq _ iI iI (by k_ne)
  ·intro w;go_simp;(try w_num);exact iI
  ·intro w;simp[go_sem, *]
  walk_nrm;apply vq _ iI iI (by k_ne)
  ·intro w;go_simp;(try w_num);exact iI
  ·intro w;simp[go_sem, *]
  walk_nrm;apply vq _ iI iI (by k_ne)
  ·intro w;go_simp;(try w_num);exact iI
  ·intro w;simp[go_sem, *]
  walk_nrm
  q_c zr
  q_c qd
  q_c qd
  q_reg
  apply vq _ iI iI (by k_ne)
  ·intro w;go_simp;(try w_num);exact iI
  ·intro w;simp[go_sem, *]
  walk_nrm;apply vq _ iI iI (by k_ne)
  ·intro w;go_simp;(try w_num);exact iI
  ·intro w;simp[go_sem, *]
  walk_nrm;apply vq _ iI iI (by k_ne)
  ·intro w;go_simp;(try w_num);exact iI
  ·intro w;simp[go_sem, *]
  walk_nrm;apply vq _ iI iI (by k_ne)
  ·intro w;go_simp;(try w_num);exact iI
  ·intro w;simp[go_sem, *]
  walk_nrm;apply vq _ iI iI (by k_ne)
  ·intro w;go_simp;(try w_num);exact iI
  ·intro w;simp[go_sem, *]
  walk_nrm
  q_skip
  q_skip
  q_skip
  q_skip
  apply vq _ iI iI (by k_ne)
  ·intro w;go_simp;(try w_num);exact iI
  ·intro w;simp[go_sem, *]
  walk_nrm
  q_c zr
  q_cond sd
  q_c y8
  q_c qd
  q_c qd
  q_reg
  apply vq _ iI iI (by k_ne)
  ·intro w;go_simp;(try w_num);exact iI
  ·intro w;simp[go_sem, *]
  walk_nrm;apply vq _ iI iI (by k_ne)
  ·intro w;go_simp;(try w_num);exact iI
  ·intro w;simp[go_sem, *]
  walk_nrm
  q_c zr
  q_cond sd
  q_c y8
  q_c qd
  q_c qd
  q_reg
  apply vq _ iI iI (by k_ne)
  ·intro w;go_simp;(try w_num);exact iI
  ·intro w;simp[go_sem, *]
  walk_nrm;apply vq _ iI iI (by k_ne)
  ·intro w;go_simp;(try w_num);exact iI
  ·intro w;simp[go_sem, *]
  walk_nrm;apply vq _ iI iI (by k_ne)
  ·intro w;go_simp;(try w_num);exact iI
  ·intro w;simp[go_sem, *]
  walk_nrm
  q_skip
  q_skip
  apply vq _ iI iI (by k_ne)
  ·intro w;go_simp;(try w_num);exact iI
  ·intro w;simp[go_sem, *]
  walk_nrm;apply vq _ iI iI (by k_ne)
  ·intro w;go_simp;(try w_num);exact iI
  ·intro w;simp[go_sem, *]
  walk_nrm
  q_skip
  q_skip
  q_skip
  q_skip
  apply vq _ iI iI (by k_ne)
  ·intro w;go_simp;(try w_num);exact iI
  ·intro w;simp[go_sem, *]
  walk_nrm
  q_c zr
  q_cond sd
  q_c y8
  q_c qd
  q_c qd
  q_reg
  apply vq _ iI iI (by k_ne)
  ·intro w;go_simp;(try w_num);exact iI
  ·intro w;simp[go_sem, *]
  walk_nrm;apply vq _ iI iI (by k_ne)
  ·intro w;go_simp;(try w_num);exact iI
  ·intro w;simp[go_sem, *]
  walk_nrm;apply vq _ iI iI (by k_ne)
  ·intro w;go_simp;(try w_num);exact iI
  ·intro w;simp[go_sem, *]
  walk_nrm;apply vq _ iI iI (by k_ne)
  ·intro w;go_simp;(try w_num);exact iI
  ·intro w;simp[go_sem, *]
  walk_nrm;apply vq _ iI iI (by k_ne)
  ·intro w;go_simp;(try w_num);exact iI
  ·intro w;simp[go_sem, *]
  walk_nrm;apply vq _ iI iI (by k_ne)
  ·intro w;go_simp;(try w_num);exact iI
  ·intro w;simp[go_sem, *]
  walk_nrm
  q_c zr
  q_cond km
  q_c wc
  q_enable
  q_leave0 H.1
  exact V
 ·refine⟨_,(stepG_add_atomic iI iI (by k_ne) iI H.23 (x_addU64_n L) (x_addU64_b L) (x_addU64_x L) .u64 (x_addU64_f L) iI iI (C W).1 (C W).2.1).trans (by rw[S];rfl),200,?_⟩;have b:D9 D.ty D.L.Wg (K.setCell (Ga D.L.Wg) (uu .u64 1)):=⟨_,_,Lq W 1⟩;walk_nrm;clear p W
  u_op Ay b
  u_c zr Ay b
  u_c wc Ay b
  u_leave1 H.11 Ay b
  u_op Ay b
  u_c zr Ay b
  u_c qd Ay b
  u_c qd Ay b
  u_reg Ay b
  u_op Ay b
  u_op Ay b
  u_op Ay b
  u_op Ay b
  u_skip Ay b
  u_skip Ay b
  u_op Ay b
  u_c zr Ay b
  u_cond sd Ay b
  u_c y8 Ay b
  u_c qd Ay b
  u_reg Ay b
  u_op Ay b
  u_op Ay b
  u_op Ay b
  u_op Ay b
  u_c zr Ay b
  u_c qd Ay b
  u_reg Ay b
  u_op Ay b
  u_op Ay b
  u_op Ay b
  u_op Ay b
  u_c zr Ay b
  u_c qd Ay b
  u_c qd Ay b
  u_reg Ay b
  u_op Ay b
  u_op Ay b
  u_op Ay b
  u_op Ay b
  u_op Ay b
  u_skip Ay b
  u_skip Ay b
  u_skip Ay b
  u_skip Ay b
  u_op Ay b
  u_c zr Ay b
  u_cond sd Ay b
  u_c y8 Ay b
  u_c qd Ay b
  u_c qd Ay b
  u_reg Ay b
  u_op Ay b
  u_op Ay b
  u_c zr Ay b
  u_cond sd Ay b
  u_c y8 Ay b
  u_c qd Ay b
  u_c qd Ay b
  u_reg Ay b
  u_op Ay b
  u_op Ay b
  u_op Ay b
  u_op Ay b
  u_op Ay b
  u_op Ay b
  u_op Ay b
  u_skip Ay b
  u_skip Ay b
  u_skip Ay b
  u_skip Ay b
  u_op Ay b
  u_c zr Ay b
  u_cond sd Ay b
  u_c y8 Ay b
  u_c qd Ay b
  u_c qd Ay b
  u_reg Ay b
  u_op Ay b
  u_op Ay b
  u_op Ay b
  u_op Ay b
  u_op Ay b
  u_op Ay b
  u_c zr Ay b
  u_cond sd Ay b
  u_c y8 Ay b
  u_c qd Ay b
  u_c qd Ay b
  u_reg Ay b
  u_op Ay b
  u_op Ay b
  u_op Ay b
  u_call H.13 (nm_uLoad L) uLoadFn Ay b
  u_c qd Ay b
  u_reg Ay b
  u_op Ay b
  u_c zr Ay b
  u_c qd Ay b
  u_reg Ay b
  u_op Ay b
  u_op Ay b
  u_op Ay b
  refine ze (λd c=>?_);replace b:=c b;clear c;refine⟨iI,λW=>?_⟩;refine⟨_,stepG_load_atomic iI iI (by k_ne) iI H.24 (x_loadU64_n L) (x_loadU64_b L) (x_loadU64_x L) .u64 (x_loadU64_f L) iI (C W).1,100,?_⟩;clear W;walk_nrm
  u_op Ay b
  u_c zr Ay b
  u_c wc Ay b
  u_leave1 H.13 Ay b
  u_op Ay b
  u_op Ay b
  u_c zr Ay b
  u_cond sd Ay b
  u_c y8 Ay b
  u_c qd Ay b
  u_reg Ay b
  u_op Ay b
  u_op Ay b
  u_op Ay b
  u_call H.14 (nm_uStore L) uStoreFn Ay b
  u_reg Ay b
  u_op Ay b
  u_op Ay b
  u_op Ay b
  u_op Ay b
  refine ze (λd c=>?_);replace b:=c b;clear c;refine⟨iI,fun⟨st,W⟩=>?_⟩;refine⟨_,stepG_store_atomic iI iI (by k_ne) iI H.25 (x_storeU64_n L) (x_storeU64_b L) (x_storeU64_x L) (x_storeU64_f L) iI iI (C W).1 (C W).2.1,100,?_⟩;replace b:D9 D.ty D.L.Wg (d.setCell (Ga D.L.Wg) (uu .u64 0)):=⟨_,_,Lq W 0⟩;clear W;walk_nrm
  u_c zr Ay b
  u_c vj Ay b
  u_leave0 H.14 Ay b
  u_c zr Ay b
  u_c qd Ay b
  u_c qd Ay b
  u_reg Ay b
  u_op Ay b
  u_c zr Ay b
  u_cond sd Ay b
  u_c y8 Ay b
  u_c stepG_block Ay b
  u_c stepG_loop Ay b
  u_c qd Ay b
  u_c qd Ay b
  u_reg Ay b
  u_op Ay b
  u_op Ay b
  u_c zr Ay b
  u_cond km Ay b
  u_c y8 Ay b
  u_c qd Ay b
  u_c stepG_block Ay b
  u_reg Ay b
  u_op Ay b
  u_op Ay b
  u_op Ay b
  refine ze (λd c=>?_);clear c b;refine⟨iI,fun⟨st,W⟩=>?_⟩;refine⟨_,(stepG_semrelease iI iI (by k_ne) iI H.16 (x_semrelease_n L) (x_semrelease_b L) (x_semrelease_x L) (x_semrelease_f L) Agb (C W).2.2.1 (C W).2.2.2).trans Ac,mayWake_entry rfl iI H.16 (x_semrelease_b L),a+19,?_⟩;clear W;walk_nrm
  q_c zr
  q_c stepG_inBlock
  q_reg
  apply vq _ iI iI (by k_ne)
  ·intro w;go_simp;(try w_num);exact iI
  ·intro w;simp[go_sem, *]
  walk_nrm;apply vq _ iI iI (by k_ne)
  ·intro w;go_simp;(try w_num);exact iI
  ·intro w;simp[go_sem, *]
  walk_nrm;apply vq _ iI iI (by k_ne)
  ·intro w;go_simp;(try w_num);exact iI
  ·intro w;simp[go_sem, *]
  walk_nrm
  q_c zr
  q_c stepG_inLoop
  q_c qd
  q_c qd
  q_reg
  apply vq _ iI iI (by k_ne)
  ·intro w;go_simp;(try w_num);exact iI
  ·intro w;simp[go_sem, *]
  walk_nrm;apply vq _ iI iI (by k_ne)
  ·intro w;go_simp;(try w_num);exact iI
  ·intro w;simp[go_sem, *]
  walk_nrm
  q_c zr
  q_cond sd
  q_exit
  q_c vj
  q_enable
  q_leave0 H.1
  exact V
def Ans(H:WgLib D.P L)(v:D.ty=L.30){c qt}(t:c.mode=.returning)(V:QuitsD D.P qt 0 (G c cs))(w)(p:D9 D.ty D.L.Wg w):o2 D.P sd D.RW D0 (WR0 D) 103 (G ((baseD L.done).at ⟨#[iB D.L.Wg,qp,qp,qp],[]⟩ [.code (KH L)]) (c::cs)) w:=by
 lib_facts
 have y:=@Agg D L H v;simp only[KH,Qy,doneFn,addFn,aY,dE,dO,eJ,dV,bW,cK]at y⊢
 u_reg Ay p
 u_op Ay p
 u_in Ay p
 refine goes_call iI iI (by k_ne) iI H.1 (nm_add L) iI ⟨by u_nil,?_⟩
 walk_nrmf addFn
 refine @y _ _ _ _ _ _ _ (qt+3) ?_ _ p
 q_c zr
 q_c vj
 exact QuitsD.leaveD iI iI H.2 iI t V
end Go.Pair
namespace Go.Pair
variable {K:Func}{L X:Array Event}{Q b:gW}{T f:Tree}{cs z:List Frame}{l:Loc}{n u:Ren}
open Go Go.Conc
def Q6{e}{R:gk->gk->Prop}{D:gk->gk->Array Event->Prop}{f:vr->gk->Prop}{b:Frame}{a k c}{h:hZ}{o n}(O:c[i]?=lj o)(W:qy o (iu c a.tmps)=km)(E:b.kind≠.early)(j:∀K,R w K->∀F:Act->gk->Prop,(∀l B,D K B (listed P b.fn a o K)/\o2 P e R D f n (G (b.at l (.inRegion c h::k)) cs) B->F l B)->uponK o a F ((execOp a.eval o).run P K)):o2 P e R D f (n+1) (G (b.at a (.inRegion c (i::h)::k)) cs) w:=by
 refine Goes.step iI λK U=>goes_oper O W E ?_;have:=j K U _ λ_ _ x=>x;revert this;cases(execOp a.eval o).run P K with
 |ok x B=>cases x<;>first|exact fun⟨d,g⟩=>⟨d,g⟩|exact id
 |halt _ _=>exact id
def Dp{a}{R:gk->gk->Prop}{D:gk->gk->Array Event->Prop}{b:vr->gk->Prop}(T:Terms R D){n c}(Y:g.status=.running)(s:∀w,stepG P a g w=.go c w #[])(h:o2 P a R D b n c w):=Goes.step Y λK U=>by rw[s];exact⟨T.idle _,h.rely T.trans U⟩
def Ws{b:Frame}{a k g}{c:hZ}{o}(O:g[i]?=lj o)(v):mz (core (G (b.at a (.inRegion g (i::c)::k)) cs)) v=G (b.at (a.put o.dst v) (.inRegion g c::k)) cs:=by
 rw[core_G,served_G,O]
 rfl
section
variable {k:Bool} {b:Frame} {a:Act} {j:List pf}
def Oo(t ty:q9)(c:Nat):Deferred:={ target:=.builtin .close #[t] ty #[sd],args:=#[.chan (lj c)] }
def Vc{g}{d:hZ}{x t c}(O:g[i]?=lj o)(W:qy o (iu g a.tmps)=km)(E:b.kind≠.early)(T:o.op=.defer { callee:=.builtin .close,args:=#[.tmp x],argTypes:=#[t] })(Z:a.eval (.tmp x)=.chan (lj c)):stepG P k (G (b.at a (.inRegion g (i::d)::j)) cs) e=.go (G (b.at (Act.put ⟨a.tmps,Oo t o.type c::a.defers⟩ o.dst qp) (.inRegion g d::j)) cs) e #[]:=by
 have Y:(execOp a.eval o).run P e=.ok (.defer (Oo t o.type c)) e:=by
  unfold execOp;simp[T,resolve,Oo,Z]
 have N:(execOp a.eval o).events P e #[]=#[]:=by
  unfold execOp;simp[T,resolve]
 have Q:(b.at ⟨a.tmps,Oo t o.type c::a.defers⟩ (.inRegion g (i::d)::j)).finish qp=b.at (Act.put ⟨a.tmps,Oo t o.type c::a.defers⟩ o.dst qp) (.inRegion g d::j):=by rw[Frame.finish_at,O];rfl
 rw[stepG_oper O W,←Q];simp[stepG.apply,Y,N,G,Frame.at,(by simpa using E),GStep.after,qm]
def Tj{f R t I c d}(y:a.defers=Oo t I c::R)(g:(P.funcs[b.fn]?).any (·.norace)=sd)(M:e.1[c]?=lj (.chan 0 #[] sd s r d)):stepG P k (G { b.at a f with mode:=.returning } cs) e=.go (G { b.at ⟨a.tmps,R⟩ f with mode:=.returning } cs) (e.shut c s r d) #[⟨.obj c,sd,km⟩,⟨.obj c,km,km⟩]:=by
 have Y:(lx (.builtin .close #[t] I #[sd]) #[.chan (lj c)]).run P e=.ok (.value (js #[])) (e.shut c s r d):=by
  simp only[lx,builtin,Sem.run_bind,run_close_open #[t] I M]
  rfl
 have N:(lx (.builtin .close #[t] I #[sd]) #[.chan (lj c)]).events P e #[]=#[⟨.obj c,sd,km⟩,⟨.obj c,km,km⟩]:=by
  simp only[lx,builtin,Sem.events_bind,events_close_open #[t] I M,run_close_open #[t] I M]
  rfl
 have K:seen P b.fn #[⟨.obj c,sd,km⟩,⟨.obj c,km,km⟩]=#[⟨.obj c,sd,km⟩,⟨.obj c,km,km⟩]:=seen_eq g Aj;simp[G,stepG,unwind,callDeferred,Frame.at,y,Oo,Y,N,GStep.after,K]
end
section
variable {J:gW} {F:vr->gk->Prop} {a:Act} {S:Env} {ops:Array ox} {l:hZ} {b:Frame} {k:List pf} {x y c:Code} {d:Nat}
def EV.seqC(h:M P main J F (G (b.at a (.code x::.code y::k)) z) w):M P main J F (G (b.at a (.code (.seq x y)::k)) z) w:=M.ctlA h λn cs w _=>qd
def EV.skipC(h:M P main J F (G (b.at a k) z) w):M P main J F (G (b.at a (.code .skip::k)) z) w:=M.ctlA h λn cs w _=>y8
def EV.blockC(h:M P main J F (G (b.at a (.code x::.inBlock d::k)) z) w):M P main J F (G (b.at a (.code (.block d x)::k)) z) w:=M.ctlA h λn cs w _=>stepG_block
def EV.inBlockC(h:M P main J F (G (b.at a k) z) w):M P main J F (G (b.at a (.inBlock d::k)) z) w:=M.ctlA h λn cs w _=>stepG_inBlock
def EV.loopC(h:M P main J F (G (b.at a (.code c::.inLoop c::k)) z) w):M P main J F (G (b.at a (.code (.loop c)::k)) z) w:=M.ctlA h λn cs w _=>stepG_loop
def EV.inLoopC(h:M P main J F (G (b.at a (.code c::.inLoop c::k)) z) w):M P main J F (G (b.at a (.inLoop c::k)) z) w:=M.ctlA h λn cs w _=>stepG_inLoop
def EV.condC{t q}(f:a.eval q=.bool t)(h:M P main J F (G (b.at a (.code (if t then x else y)::k)) z) w)(E:Eh P.globals.size q=true:=by rfl):M P main J F (G (b.at a (.code (.cond q x y)::k)) z) w:=
 M.ctlA h λn cs w p=>stepG_cond (by rw[Hb p a q E,f];simp)
def EV.regionC(h:M P main J F (G (b.at a (.inRegion ops (List.range ops.size)::k)) z) w):M P main J F (G (b.at a (.code (.region d ops sd)::k)) z) w:=M.ctlA h λn cs w _=>stepG_region
def EV.regionEnd(h:M P main J F (G (b.at a k) z) w):M P main J F (G (b.at a (.inRegion ops []::k)) z) w:=M.ctlA h λn cs w _=>zr
def EV.piece{Q:Exit->Act->gk->Prop}(D:b.fn=fn)(E:b.kind=.normal)(h:Hp P main J F fn c Q a w)(f:∀e l B,Q e l B->Vk P main J F b k z e l B):=h b k z D E f
def EV.opRob(E:b.kind=.normal)(O:ops[i]?=lj o)(u:qy o (iu ops a.tmps)=km)(H:∀d,∃x U,GC P J (Fp a o) (w.at d) x U/\M P main J F (G (b.at (a.put o.dst x) (.inRegion ops l::k)) z) U):M P main J F (G (b.at a (.inRegion ops (i::l)::k)) z) w:=by
 have K:b.kind≠.early:=by rw[E];decide
 refine M.step iI λm d=>?_;obtain⟨x,U,Y,g⟩:=H d;have j:Plain (w.at d):=m;refine⟨G (b.at (a.put o.dst x) (.inRegion ops l::k)) z,U,⟨iI,Y.plain j,Y.frame j,λn t W p R s=>?_⟩,g⟩;obtain⟨f,y,L,C,h,T,q,c,r⟩:=Y.all j n t W p R s;have B:qy o (iu ops (Bw n a).tmps)=km:=by
  exact C0b
 exact Rq7
def EV.opPure{x}(E:b.kind=.normal)(O:ops[i]?=lj o)(W:qy o (iu ops a.tmps)=km)(V:Oi P S fn o)(j:S.reg fn a.tmps)(Y:∀w,(execOp a.eval o).run P w=.ok (.value x) w)(N:∀w,(execOp a.eval o).events P w #[]=#[])(h:M P main J F (G (b.at (a.put o.dst x) (.inRegion ops l::k)) z) w):=
 M.opRob E O W λd=>⟨x,w.at d,Rh V j Y N,M.at h d⟩
def EV.opEv{x v'}(E:b.kind=.normal)(O:ops[i]?=lj o)(W:qy o (iu ops a.tmps)=km)(V:Oi P S fn o)(j:S.reg fn a.tmps)(Y:∀d,Yields P (execOp a.eval o) (w.at d) x (v'.at d))(N:∀d,∀e∈(execOp a.eval o).events P (w.at d) #[],Ff J e)(h:M P main J F (G (b.at (a.put o.dst x) (.inRegion ops l::k)) z) v'):=
 M.opRob E O W λd=>⟨x,v'.at d,Qo V j (Y d) (N d),M.at h d⟩
def EV.opEnter{f d e}(E:b.kind=.normal)(O:ops[i]?=lj o)(W:qy o (iu ops a.tmps)=km)(Y:∀n w,n.Fix P.globals.size->(execOp (Bw n a).eval o).run P w=.ok (.enter f (d.map (Az n))) w)(N:∀n w,n.Fix P.globals.size->(execOp (Bw n a).eval o).events P w #[]=#[])(H:Bg P main J F f d w e)(g:∀v B,e v B->M P main J F (G (b.at (a.put o.dst v) (.inRegion ops l::k)) z) B):M P main J F (G (b.at a (.inRegion ops (i::l)::k)) z) w:=by
 obtain⟨r,c,C,s,m,h⟩:=H;have Q:∀v,(b.at a (.inRegion ops (i::l)::k)).finish v=b.at (a.put o.dst v) (.inRegion ops l::k):=λv=>by rw[Frame.finish_at,O];rfl
 refine M.ctl (h (b.at a (.inRegion ops (i::l)::k)) z iI λv B q=>Aj) iI iI λn w p=>?_;rw[Ep,Gn];have U:iu ops (Bw n a).tmps=iu ops a.tmps:=E1 ops a.tmps;have:=stepG_enter (P:=P) (main:=main) (b:=b) (a:=Bw n a) (k:=k.map (Df n)) (cs:=z.map (Bj n)) (rest:=l) O (by rwa[U]) (by rw[E];decide) (Y n w p);rw[show oo (Df n) (.inRegion ops (i::l)::k)=.inRegion ops (i::l)::k.map (Df n) from iI,this,J9,enter_at _ C m];unfold listed;rw[N n w p,qm]
 rfl
def EV.opCall{f X d}(E:b.kind=.normal)(H:Bg P main J F f X w d)(O:ops[i]?=lj o)(W:qy o (iu ops a.tmps)=km)(T:o.op=.call { callee:=.value (.func f),args,argTypes:=m })(g:args.map a.eval=X)(j:args.all (Eh P.globals.size)=km)(p:∀v B,d v B->M P main J F (G (b.at (a.put o.dst v) (.inRegion ops l::k)) z) B):M P main J F (G (b.at a (.inRegion ops (i::l)::k)) z) w:=by
 have ⟨r,c,C,s,h,_⟩:=H;have e:r.body.isNone=sd:=Aa1;refine M.opEnter E O W (λn w q=>?_) (λn w _=>events_call_body T C s e _) H p;rw[run_call_body T C s e,Jg (λx Z=>Hb q a x Z) args j,g]
def EV.opClo{f q}{cap:gY}{args ats}{X:gY}{d}(E:b.kind=.normal)(O:ops[i]?=lj o)(W:qy o (iu ops a.tmps)=km)(T:o.op=.call { callee:=.value q,args,argTypes:=ats })(Z:a.eval q=.func (.func f) #[] cap)(Y:Eh P.globals.size q=km)(S:args.all (Eh P.globals.size)=km)(e:args.map a.eval++cap=X)(H:Bg P main J F f X w d)(g:∀v B,d v B->EV P main J F (G (b.at (a.put o.dst v) (.inRegion ops l::k)) z) B):EV P main J F (G (b.at a (.inRegion ops (i::l)::k)) z) w:=by
 subst e;have N:=H;obtain⟨m,c,C,s,t,_⟩:=N;have r:m.body.isNone=sd:=by rw[t];rfl
 have Q:∀(a:Act)cap,a.eval q=.func (.func f) #[] cap->execOp a.eval o=zo f (args.map a.eval++cap):=λa cap Z=>by
  unfold execOp;rw[T]
  show(k9 (a.eval q) (args.map a.eval) >>= λj=>lx j.target j.args)=_;exact Ius
 have M:∀h:Array uo,∀w:gk,(zo f h).runT P w #[]=(.ok (.enter f h) w,#[]):=λh w=>by
  unfold zo
  show(match P.funcs[f]? with|none=>_|some fn=>_:Sem Next).runT P w #[]=_;rw[C];dsimp only;rw[s,r]
  rfl
 have u:∀n,n.Fix P.globals.size->(Bw n a).eval q=.func (.func f) #[] (cap.map (Az n)):=λn p=>by rw[Hb p a q Y,Z];simp[Mq]
 refine EV.opEnter E O W (λn w p=>?_) (λn w p=>?_) H g
 ·rw[Q _ _ (u n p),(λn p=>Jg (λy U=>Hb p a y U) args S) n p,dC];exact(Lm (M _ w)).1
 simp_all
def EV.leave{f r q}(y:a.defers = [])(I:P.funcs[b.fn]?=lj K)(E:b.kind=.normal)(g:∀w,(rz K a.tmps).run P w=.ok r w)(i:∀w,(rz K a.tmps).events P w #[]=#[])(h:M P main J F (G (q.finish r) z) w):M P main J F (G { b.at a f with mode:=.returning } (q::z)) w:=
 M.step iI λj d=>⟨_,w.at d,stepR_ret iI y E I j (g _) (λe N=>by have N:e∈(rz K a.tmps).events P _ #[]:=N;grind),h.at d⟩
def EV.endC(h:M P main J F (G { b.at a [] with mode:=.returning } z) w):M P main J F (G (b.at a []) z) w:=M.ctl h rfl rfl λn H _=>vj (a:=Bw n a)
end
section
variable {J:gW} {a:Act} {H:gV}
def Alr(c:∀n:Ren,n.Fix P.globals.size->Rf P n (Kz n) (execOp a.eval o) (Fp a o n))(b:Yields P (execOp a.eval o) v x U)(N:∀e∈(execOp a.eval o).events P v #[],Ff J e):GC P J (Fp a o) v x U:=by
 have ⟨l,F⟩:=R8;have f:∃y,(y=.value x∨(y=.skip/\x=qp))/\(execOp a.eval o).run P v=.ok y U:=by
  rcases b with b|⟨b,rfl⟩
  ·grind
  grind
 have ⟨y,Z,Y⟩:=f;refine⟨λQ=>((c l (F _)).mono v y U Q Y).1,λQ=>?_,λQ n u w p R s=>?_⟩
 ·have ⟨_,d,k⟩:=(c l (F _)).mono v y U Q Y
  grind
 ·have ⟨_,_,k⟩:=(c l (F _)).mono v y U Q Y;have ⟨B,C,g,T,q⟩:=(c n p).sim J u v w s Q N y U Y R;exact Ote
def NQ(t x):Db H P n (Az n) (Instr.makeChan t x) (Instr.makeChan t (Az n x)):=by
 refine Rf.bind (Rf.asInt x) λm=>?_;refine Rf.bind (Rf.underlying t) λu=>?_;simp only[id];cases u with
 |chan a e=>
  refine Rf.typeInfoIn e λi V=>?_;split
  ·exact Rf.bind (f:=λx=>x) Rf.rt λ_=>by
    refine Gr5 λh e=>?_;rw[e]at h;exact Rf.bind h λ_=>Rf.pure Ad
  ·refine Gr5 λh e=>?_;rw[e]at h;exact Rf.bind h λ_=>Rf.pure Ad
 |_=>exact Rf.never (Cu iI trivial)
end
section
variable {J Own:gW}
def LikeO.row{i}{c:gY}{e a I}(h:LikeO n J i (oh c e a) I)(M:c≠#[])(W:∀j,¬J (.cell (iD i j))):I=oh (c.map (Az n)) e a:=by
 rcases h with h|⟨Q,B,S,R,C,b,T,q⟩|⟨_,h,_⟩|⟨B,S,R,C,_⟩
 ·exact h
 ·cases C;rw[b]
  congr 1
  refine bX λj=>?_
  grind
 ·exact absurd iI (h _ _ _)
 grind
def Di.row(b:Di P n J Own h v w){i}{c:gY}{e a}(Y:v.1[i]?=lj (oh c e a))(M:c≠#[])(W:∀j,¬J (.cell (iD i j))):w.1[sh n i]?=lj (oh (c.map (Az n)) e a):=by
 have ⟨I,C,d⟩:=(b.sm 0).4 i _ Y;rw[C,d.row M W]
def Di.cellW(a:Di P n J Own h v w)(Z:v.cell? (iD i j)=lj x)(W:¬J (.cell (iD i j))):w.cell? ⟨sh n i,j,jh⟩=lj (Az n x):=by
 have Y:=Ki Z;have F:v.1[i]?=lj v.1[i]:=aO Y;obtain⟨I,C,b⟩:=(a.sm 0).4 i _ F;cases O:v.1[i] with
 |cells d e l=>
  rw[O]at b F;have H:d[j]?=lj x:=by simpa[ur,F] using Z
  rcases b with a|⟨Q,B,S,R,c,k,N,f⟩|⟨_,a,_⟩|⟨B,S,R,c,_⟩
  ·rw[a]at C;simp only[Dq]at C;rw[Ci C j,aN,H];rfl
  ·cases c;rw[k]at C;rw[Ci C j,f j W,H];rfl
  ·exact absurd iI (a _ _ _)
  grind
 |_=>rw[O]at F;simp[ur,F]at Z
def Di.setCell(a:Di P n J Own h v w){y x}(M:v.cell? (iD i j)=lj y)(Z:Az (.up v.1.size) x=x)(G:Bn (.up v.1.size) R=R):Di P n J Own R (v.setCell (iD i j) x) (w.setCell ⟨sh n i,j,jh⟩ (Az n x)):=by
 have N:(v.setCell (iD i j) x).1.size=iL v.1:=size_setCell _ _ _;refine⟨λt=>(a.sm t).setCell M x,a.fix,by rw[N];exact a.glob,⟨λk o E=>?_,by rwa[N]⟩,λl K z=>a.own l ?_ z⟩
 ·rw[N];rw[heap_setCell]at E;split at E
  ·rename_i u;subst u;cases D:v.1[k]? with
   |none=>grind
   |some p=>
    have Q:=a.wf.mem _ _ D;rw[D,aI]at E;cases p with
    |cells e f C=>
     obtain rfl:=aB E;simp only[eR,aR,bR];rcases Q with q|⟨A,B,S,c,b,s,F,W⟩|⟨_,q,_⟩|⟨B,S,c,b,s⟩
     ·apply r7;simp only[Dq]at q⊢;injection q with q _ _
      congr 1
      grind
     ·cases b;cases s;refine kr (r7 ⟨_,_,_,_,iI,iI,iI,λm L=>?_⟩)
      grind
     ·exact absurd iI (q _ _ _)
     ·injection b with b _ _;subst b;exact kr (kr (kr ⟨_,_,_,Ad,iI⟩))
    |_=>
     obtain rfl:=aB E;exact Q
  ·exact a.wf.mem k o E
 ·rcases Ti (Gd v (iD i j) x km) K with q|q
  ·exact q
  ·exfalso;cases l with
   |cell d=>
    obtain⟨p,Q⟩:=K;have:=Ki Q;rw[N]at this;have:iL v.1<=d.block:=q;omega
   |obj r=>
    obtain⟨p,Q,_⟩:=K;have:=(aG.1 Q).1;rw[N]at this;have:iL v.1<=r:=q;omega
   |_=>exact K.elim
def Di.object(f:Di P n J Own h v w){i O o}(V:v.1[i]?=lj O)(S:Cj O)(z:Cj o)(Y:∀m,Dq m o=o)(s:w.1[sh n i]?=lj o):Di P n (λl=>J l/\l≠.obj i) (λl=>Own l∨l=.obj (sh n i)) h { v with heap:=v.1.setIfInBounds i o } w:=by
 have D:∀j q,({ v with heap:=v.1.setIfInBounds i o }:gk).1[j]?=lj q->(j=i/\q=o)∨(j≠i/\v.1[j]?=lj q):=λj q k=>by
  grind
 have r:∀m(j:Nat)q I,j≠i->LikeO m J j q I->LikeO m (λl=>J l/\l≠.obj i) j q I:=λm j q I k K=>by
  rcases K with C|⟨c,B,E,H,C,d,T,A⟩|⟨F,C,d⟩|C
  ·exact r7 C
  ·exact kr (r7 ⟨c,B,E,H,C,d,T,λy U=>A y λW=>U ⟨W,Ad⟩⟩)
  ·exact kr (kr (r7 ⟨⟨⟨F.1,λe=>k (by injection e)⟩,F.2⟩,C,d⟩))
  ·exact kr (kr (kr C))
 have N:({ v with heap:=v.1.setIfInBounds i o }:gk).1.size=iL v.1:=Ad;refine f.recast N (aC _) (f.sm 0).tape (f.sm 0).drawn (f.sm 0).os (f.sm 0).output iI (λj q k=>?_) ⟨λj q k=>?_,by rw[N];exact f.wf.2⟩ λl K k=>?_
 ·rcases D j q k with⟨rfl,rfl⟩|⟨C,d⟩
  ·exact⟨q,s,r7 (Y n).symm⟩
  ·obtain⟨g,T,A⟩:=(f.sm 0).4 _ _ d;exact⟨g,T,r n j q g C A⟩
 ·rw[N];rcases D j q k with⟨rfl,rfl⟩|⟨C,d⟩
  ·exact r7 (Y _).symm
  ·exact r _ j q q C (f.wf.mem j q d)
 ·cases l with
  |cell a=>
   refine r7 (f.own (.cell a) ?_ λW=>k ⟨W,Ad⟩);obtain⟨x,Z⟩:=K;refine⟨x,?_⟩;by_cases R:a.block=i
   ·exfalso;unfold ur at Z;rw[show({ v with heap:=v.1.setIfInBounds i o }:gk).1[a.block]?=lj o by rw[R];exact aQ ((aG.1 V).1)]at Z;cases o with
    |cells c e fz=>exact z _ _ _ iI
    |_=>simp at Z
   ·unfold ur at Z⊢
    rwa[show({ v with heap:=v.1.setIfInBounds i o }:gk).1[a.block]?=v.1[a.block]? from aD (dG R)]at Z
  |obj b=>
   by_cases p:b=i
   ·exact kr (by rw[p];rfl)
   ·refine r7 (f.own (.obj b) ?_ λW=>k ⟨W,λe=>p (by injection e)⟩);obtain⟨q,t,M⟩:=K;rcases D b q t with⟨C,_⟩|⟨_,d⟩
    ·exact absurd C p
    ·exact⟨q,d,M⟩
  |_=>exact K.elim
end
def ENP(P:im)(Post:E2)(J:gW)(g:vr)(v:gk):Prop:=Plain v->EN P Post J g v
def XQ{a J}{b:vr->gk->Prop}:∀{T} {g} {v},FwT P a J (λg v=>Plain v->b g v) T g v->FwT P a J b T g v:=by
 intro T
 induction T with
 |leaf=>exact λ{g v} h=>⟨h.1,λd=>h.2 d h.1⟩
 |node f O=>exact λ{g v} h=>⟨h.1,h.2.1,λd=>let⟨R,U,C,c⟩:=h.2.2 d;⟨R,U,C,O d c⟩⟩
def EN.ofP{Y J}(Q:Plain v)(h:M P km J (ENP P Y J) g v):=let⟨_,h⟩:=h Q;EN.ofT (XQ h)
def Pj(Bs:gV)(J0:gW):Prop:=∀l,J0 l->∃a,l=.cell a/\Bs a.block
def JOr(J J0:gW)(l:Loc):Prop:=J l∨J0 l
section
variable {k:Bool} {J m:gW} {u O:gk}
def LikeO.out{o I}(F:Pj c m)(V:¬c i)(h:LikeO n (JOr J m) i o I):LikeO n J i o I:=by
 rcases h with h|⟨a,B,e,d,C,b,T,q⟩|⟨⟨C|C,b⟩,T,q⟩|h
 ·exact r7 h
 ·refine kr (r7 ⟨a,B,e,d,C,b,T,λj l=>q j ?_⟩);rintro(x|x)
  ·exact l x
  ·have ⟨f,S,L⟩:=F _ x;cases S;exact V L
 ·exact kr (kr (r7 ⟨⟨C,b⟩,T,q⟩))
 ·have ⟨f,S,_⟩:=F _ C;cases S
 ·exact kr (kr (kr h))
def Sm.hideJ{t x}(F:Pj c m)(h:De c e u)(s:Sm n t (JOr J m) (Cb c e u) x):Sm n t J u x:=by
 have V:=s.hide h;refine⟨V.top,V.lt,V.out,λi o O=>?_,V.tape,V.drawn,V.os,V.output⟩;by_cases b:c i
 ·obtain⟨f,g,j,C,d⟩:=h.blank i b;obtain⟨I,G,K⟩:=V.4 i _ O;rw[d]at O;cases O;exact E90
 ·obtain⟨I,G,K⟩:=V.4 i o O;exact⟨I,G,K.out F b⟩
def Sm.monoJ{t U x}(W:∀l,J l->U l)(s:Sm n t J u x):Sm n t U u x:=⟨s.top,s.lt,s.out,λi o O=>let⟨I,C,d⟩:=s.4 i o O;⟨I,C,d.monoJ W⟩,s.tape,s.drawn,s.os,s.output⟩
def EC(F:Pj c m)(h:De c e u){a}(N:Hk u a)(l:Ff J a):Ff (JOr J m) a:=by
 rintro(x|x)
 ·exact l x
 ·have ⟨b,S,L⟩:=F _ x;exact absurd L ((Kv h N).1 b S)
def Ha.overJ(F:Pj c m)(W:RowsIn c e)(d:De c e u)(s:Ha P k J h u R O):Ha P k (JOr J m) h (Cb c e u) R (Cb c e O)/\De c e O:=by
 have ⟨X,a,K⟩:=s.frame;have f:=d.frame a;refine⟨⟨s.run,H0 W f s.plain,⟨X,Sr d a,λb N=>⟨(Kv f (K b N).1).2.2,EC F f (K b N).1 (K b N).2⟩⟩,λn t x p g Z=>?_⟩,f⟩;rw[Bh]at g;have ⟨i,G,L,C,j,T,q,z⟩:=s.all n t x p g (Z.hideJ F d);exact⟨i,G,L,C,Z.show d f (j.monoJ λ_=>r7) T λb N=>(q b N).1,T,λb N=>⟨(Kv f (q b N).1).2.2,EC F f (q b N).1 (q b N).2⟩,z⟩
def Ajt(c:gV)(e:gk)(Stop:vr->gk->Prop)(h:vr)(u:gk):Prop:=De c e u->Plain u->Stop h (Cb c e u)
def RU(h:De c e u)(Q:Plain (Cb c e u)):Plain u:=λi o O=>by
 by_cases V:c i
 ·have ⟨a,b,d,_,J⟩:=h.blank i V;rw[J]at O;cases O;trivial
 ·exact Q i o (by rwa[By V])
def Fw.show{a:vr->gk->Prop}(F:Pj c m)(W:RowsIn c e)(b:De c e u)(I:Fw P k J (Ajt c e a) h u):Fw P k (JOr J m) a h (Cb c e u):=by
 obtain⟨T,I⟩:=I
 induction T generalizing h u with
 |leaf=>exact⟨.leaf,H0 W b I.1,λd=>I.2 d (b.at d) I.1⟩
 |node i O=>
  have ⟨Q,Y,I⟩:=I;refine Fw.step (H0 W b Q) Y λd=>?_;have ⟨R,U,C,f⟩:=I d;have ⟨g,q⟩:=C.overJ F W (b.at d);exact⟨R,Cb c e U,g,O d q f⟩
def EV.show{a:vr->gk->Prop}(F:Pj c m)(W:RowsIn c e)(b:De c e u)(I:M P k J (Ajt c e a) h u):M P k (JOr J m) a h (Cb c e u):=λQ=>Fw.show F W b (I (RU b Q))
end
end Go.Pair
