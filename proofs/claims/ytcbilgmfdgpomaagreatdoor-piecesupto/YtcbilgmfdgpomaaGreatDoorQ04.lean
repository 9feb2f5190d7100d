import Derived.Test.YtcbilgmfdgpomaaGreatDoorQ03
set_option linter.all false
set_option maxRecDepth 100000
open Go renaming Goroutine → o5,World → qg,Value → w8,Program → vg,Trace → ql,yielded → gu,undef → uw,FuncId → pz,TypeId → mi,Operand → ib,results → qe,callFunc → jl,Oper → km,invoke → pj,Item → wx,getObj → yj,setObj → im
open Go.Conc renaming stepG_region_end → zt,stepG_seq → rp,served → jy,mem_ofEvents → o1,stepG_skip → kq,deafBehind_still → jz,Goes → gi,stepG_end → gg,mem_seen → om,Deaf_own → ui,stepG_ret' → o0,seen_none → yo
open Option renaming some → ni,none → su
open Bool renaming true → tu,false → o9
open Go.Conc.QuitsD renaming value → ir
open Go.Region renaming wanted → yg
open Go.Sem renaming runT_eq → s9,bind → gd,runT → kj
open Go.World renaming cell? → sw
open Array renaming replicate → pf,getElem?_push_lt → w7,size → iS
open Pure renaming pure → nh
open Go.Instr renaming enterLoop → rq,takeDeferred → fu,yield → qo,beginRound → qx,getLoop → zx
open Go.Deferred renaming ofValue → uj
open Go.ConcN renaming Deaf_still → lg
open Go.CallKind renaming early → pc
open Bind renaming bind → gz
open Go.Conc.Goes renaming stop → mh
open Go.Obj renaming isChan → wy,cells → jf
open List renaming map → lp,length → iR
open Go.Value renaming func → vz,int → pq,bool → vp,tuple → my
open Go.Trace renaming g? → r8
open Or renaming inl → p8,inr → n9
open Go.Pair renaming EV → M
variable {I Y f i j k q r rb s:Nat}{N:o5->qg->Prop}{P:vg}{R a b g g' h:o5}{S c:hY}{U d e v v' w:qg}{Z:List (Array w8)}{args:Array ib}{cap:iB}{fn:pz}{m:Array mi}{main:Bool}{o:km}{p:Prop}{t:ql}{x:w8}
def Geh(h:p:=by
 have:=S i (aC V a.glob);unfold sh at this;rw[this,(a.fix i V)]):p:=h
def X5d(h:p:=by
 obtain⟨c,Z,rfl⟩:=Conc.mem_ofEvents T;obtain⟨b,rfl,_,K⟩:=N c Z;exact K):p:=h
def V6n(h:p:=by
 obtain⟨c,Z,rfl⟩:=Conc.mem_ofEvents T;rcases Wi (N c Z) D with i|⟨r,i,J,k⟩
 ·exact .inl (.inl i)
 grind):p:=h
def B7m(h:p:=by
 exact .inl ⟨G.running (λx _ c=>by rw[c.1];exact c.2) w (Mv.RoR.refl w),Aa⟩):p:=h
def Nwo(h:p:=by
 rw[e];exact c.imp id λc=>c.imp id fun⟨m,C,J⟩=>⟨m,C,Goes.rely (R:=D.L.RoR) (λ_ _ _=>Mv.RoR.trans) J Y⟩):p:=h
def Ius(h:p:=by
 rw[Z]
 show invoke (.fn (.func f) cap) (#[]++args.map a.eval)=_;rw[eI]
 rfl):p:=h
def Bf1{q:Prop}(k:q)(h:Hd q->p:=by
 intro kz;have h:=Rf.newObj (H:=H) (P:=P) (n:=n) (o:=.chan m.toNat #[] false 0 0 false) trivial;have e:Dt n (.chan m.toNat #[] false 0 0 false)=.chan m.toNat #[] false 0 0 false:=by simp[Dt]
 revert h e;exact kz.1):p:=h ⟨k⟩
namespace Go.Pair
variable {E T:Tree}{K:Func}{L X:Array Event}{Own' Q:hZ}{assign body:Code}{cs z:List Frame}{l:Loc}{n u:Ren}{params:Array Tmp}
open Go Go.Conc
section
variable {k:Bool} {J:hZ} {l:Nat} {f:pz} {tmps:iB} {j:List wx} {Q:Exit->Act->qg->Prop} {a:Act} {g:Array km} {b:iG}
def U9{l}(W:¬J (.obj l)):∀e∈(#[⟨.obj l,o9,o9⟩,⟨.obj l,tu,o9⟩]:Array Event),Fb J e:=λe N=>by
 simp at N;rcases N with rfl|rfl<;>exact Cl W
def SX{r}(h:Fj w l r)(Y:r.state=.ready):(do qx l;nh Next.skip:Sem Next).runT P w #[]=(.ok .skip (E5 w l { r with state:=.busy }),#[⟨.obj l,o9,o9⟩,⟨.obj l,tu,o9⟩]):=by
 unfold Fj at h;simp[-s9,qx,zx,yj,im,gz,gd,nh,kj,h,Y,wy,E5]
def DH{r}(h:Fj w l r):(Instr.endRound l su).runT P w #[]=(.ok (vp tu) (E5 w l { r with state:=.ready,pending:=su }),#[⟨.obj l,o9,o9⟩,⟨.obj l,tu,o9⟩]):=by
 unfold Fj at h;simp[-s9,Instr.endRound,zx,yj,im,gz,gd,nh,kj,h,wy,E5]
def JI{r}(h:Fj w l r)(Y:r.state=.ready):(Instr.endLoop l).runT P w #[]=(.ok r.pending (E5 w l { r with state:=.exhausted }),#[⟨.obj l,o9,o9⟩,⟨.obj l,tu,o9⟩]):=by
 unfold Fj at h;have e:(LoopState.ready==LoopState.busy)=o9:=iP;simp[-s9,Instr.endLoop,zx,yj,im,gz,gd,nh,kj,h,Y, wy,E5]
def SY{r}(h:Fj w l r){as:iB}(s:as.size=r.params.size):(qo l as).runT P w #[]=(.ok (.round l r.fn ((r.params.zip as).foldl (λtmps(t,a)=>tmps.setIfInBounds t a) r.tmps) r.assign r.body) w,#[⟨.obj l,o9,o9⟩]):=by
 unfold Fj at h;simp[-s9,qo,zx,yj,gz,gd,nh,kj,h,s,wy]
def ZX{b}(h:w.1[b]?=ni (.deferred (ni []))):(fu b).runT P w #[]=(.ok [] { w with heap:=w.1.setIfInBounds b (.deferred su) },#[⟨.obj b,o9,o9⟩,⟨.obj b,tu,o9⟩]):=by
 simp[-s9,fu,yj,im,gz,gd,nh,kj,h,wy]
def BH(params assign body):(rq f tmps params assign body su).runT P w #[]=(.ok (iS w.1+1,[{ target:=.collected w.1.size,args:=#[] }]) { w with heap:=(w.1.push (.deferred (ni []))).push (.loop { state:=.ready,pending:=su,fn:=f,tmps,params,assign,body,defers:=iS w.1 }) },#[]):=by
 simp[-s9,rq,Go.newObj,gz,gd,nh,kj]
def Lk{a}{s:Sem a}{B x}(h:s.runT P w #[]=(.ok x B,X)):s.run P w=.ok x B/\s.events P w #[]=X:=by
 simp_all
def EV.begin{r}(K:Fj v l r)(Y:r.state=.ready)(W:¬J (.obj l))(D:∀d,EV P k J N (G (Lc l f tmps j) cs) (E5 (v.at d) l { r with state:=.busy })):EV P k J N (G (Lc l f tmps (.beginRound::j)) cs) v:=by
 refine EV.sem iP (λn _=>DC l) λd=>?_;obtain⟨C,a⟩:=Lk (SX (show Fj (v.at d) l r from K) Y);refine⟨.skip,_,G _ cs,C,by rw[a];exact U9 W,iP,λn w B p F=>?_,D d⟩;have F:(do qx _;nh Next.skip:Sem Next).run P w=.ok .skip B:=F;refine⟨seen P f _,?_,λe b=>om b⟩;have H:stepG P k (G (Lc (sh n l) f (tmps.map (A1 n)) (.beginRound::j.map (Dg n))) (cs.map (Bm n))) w=stepG.apply P tu (Lc (sh n l) f (tmps.map (A1 n)) (.beginRound::j.map (Dg n))) (cs.map (Bm n)) su (do qx (sh n l);nh Next.skip) w:=by
  simp[G,stepG,stepG.exec,Lc]
 have M:((Lc (sh n l) f (tmps.map (A1 n)) (.beginRound::j.map (Dg n))).kind==pc)=o9:=iP;rw[Ep,Vj,Ep,Vj];rw[show lp _ _=.beginRound::j.map _ from iP,H];simp only[stepG.apply,s9,F,bP,M];simp[GStep.after,G,Lc,Frame.finish]
def EV.endRound{r c}(K:Fj v l r)(W:¬J (.obj l))(D:∀d,M P k J N (G (c.finish (vp tu)) cs) (E5 (v.at d) l { r with state:=.ready,pending:=su })):M P k J N (G (Lc l f tmps []) (c::cs)) v:=by
 refine M.sem iP (λn _=>OC l su) λd=>?_;obtain⟨C,a⟩:=Lk (DH (show Fj (v.at d) l r from K));refine⟨vp tu,_,G _ cs,C,by rw[a];exact U9 W,iP,λn w B p F=>?_,D d⟩;refine⟨seen P f _,?_,λe b=>om b⟩;rw[Ep,Vj,Ep,bA,←Md];simp only[G,stepG,stepG.exec,Lc,cO,s9,F,doReturn];simp[GStep.after]
def EV.endLoop{r}{b:Frame}(K:Fj v l r)(Y:r.state=.ready)(Q:r.pending=su)(W:¬J (.obj l))(D:∀d,M P k J N (G (b.at a j) cs) (E5 (v.at d) l { r with state:=.exhausted })):M P k J N (G (b.at a (.endRangeFunc l::j)) cs) v:=by
 refine M.sem iP (λn _=>SP l) λd=>?_;obtain⟨C,c⟩:=Lk (JI (show Fj (v.at d) l r from K) Y);refine⟨su,_,G _ cs,by rw[C,Q],by rw[c];exact U9 W,iP,λn w B p F=>?_,D d⟩;refine⟨seen P b.fn _,?_,λf e=>om e⟩;rw[Ep,Gu,Ep,Gu];simp only[G,stepG,stepG.exec,Frame.at,bA,Dg,s9,F];simp[GStep.after]
def EV.taken{b:Frame}{c y}(e:a.defers = [{ target:=.collected y,args:=#[] }])(j:v.1[y]?=ni (.deferred (ni [])))(W:¬J (.obj y))(D:∀d,M P k J N (G { b.at { a with defers:=[] } c with mode:=.returning } cs) { v.at d with heap:=v.1.setIfInBounds y (.deferred su) }):M P k J N (G { b.at a c with mode:=.returning } cs) v:=by
 refine M.sem (f:=λn=>lp (O6 n)) (t:=λn=>fu (sh n y)) iP (λn _=>Yf y) λd=>?_;obtain⟨C,i⟩:=Lk (P:=P) (ZX (show(v.at d).1[y]?=_ from j));refine⟨[],_,G { b.at { a with defers:=[] } c with mode:=.returning } cs,C,by rw[i];exact U9 W,iP,λn w B p F=>?_,D d⟩;refine⟨seen P b.fn ((fu (sh n y)).events P w #[]),?_,λg f=>om f⟩;have S:Bn n (G { b.at a c with mode:=.returning } cs)=G { b.at (Bw n a) (c.map (Dg n)) with mode:=.returning } (cs.map (Bm n)):=rfl;have L:Bn n (G { b.at { a with defers:=[] } c with mode:=.returning } cs)=G { b.at { Bw n a with defers:=[] } (c.map (Dg n)) with mode:=.returning } (cs.map (Bm n)):=rfl;have s:(Bw n a).defers = [{ target:=.collected (sh n y),args:=#[] }]:=by simp[Bw,e,O6,Wz]
 rw[S,L];simp only[G,stepG,unwind,Frame.at,s,s9,F];simp[GStep.after]
def EV.yield{r}{c:Frame}{f}(O:g[i]?=ni o)(A:yg o (gu g a.tmps)=tu)(E:c.kind=.normal)(T:o.op=.call { callee:=.value f,args,argTypes:=m })(U:a.eval f=.func (.yield l) #[] #[])(K:Fj v l r)(s:args.size=r.params.size)(W:¬J (.obj l))(y:Eg P.globals.size f=tu)(S:args.all (Eg P.globals.size)=tu)(D:∀d,EV P k J N (G (Lc l r.fn ((r.params.zip (args.map a.eval)).foldl (λtmps(t,x)=>tmps.setIfInBounds t x) r.tmps) [.code r.assign,.beginRound,.code r.body]) (c.at a (.inRegion g (i::b)::j)::cs)) (v.at d)):EV P k J N (G (c.at a (.inRegion g (i::b)::j)) cs) v:=by
 have Q:∀(a:Act)l,a.eval f=.func (.yield l) #[] #[]->execOp a.eval o=qo l (args.map a.eval):=λa l U=>by
  unfold execOp;rw[T]
  show((uj (a.eval f) (args.map a.eval)) >>= λd=>pj d.target d.args)=_;rw[U]
  show pj (.fn (.yield l) #[]) (#[]++args.map a.eval)=_;rw[eI]
  rfl
 refine EV.sem (f:=λn=>NY n) (t:=λn=>qo (sh n l) ((args.map a.eval).map (A1 n))) iP (λn _=>Aew l (args.map a.eval)) λd=>?_;obtain⟨C,u⟩:=Lk (P:=P) (SY (show Fj (v.at d) l r from K) (as:=args.map a.eval) (by simpa using s));refine⟨_,_,_,C,by rw[u];intro e h;simp at h;subst h;exact Cl W,iP,λn w B p F=>?_,D d⟩;refine⟨seen P c.fn ((qo (sh n l) ((args.map a.eval).map (A1 n))).events P w #[]),?_,λe h=>om h⟩;have q:=Q (Bw n a) (sh n l) (by rw[Hl p a f y,U];simp[Mp]);rw[Jm (λx Z=>Hl p a x Z) args S]at q;have z:yg o (gu g (Bw n a).tmps)=tu:=by
  exact Vj8
 have M:((c.at (Bw n a) (.inRegion g (i::b)::j.map (Dg n))).kind==pc)=o9:=by show(c.kind==pc)=o9;rw[E];rfl
 rw[Ep,Gu,Ep];rw[show lp (Dg n) (.inRegion g (i::b)::j)=.inRegion g (i::b)::j.map (Dg n) from iP];rw[stepG_oper O z,q];have F:(qo (sh n l) ((args.map a.eval).map (A1 n))).run P w=.ok (.round (sh n l) r.fn (((r.params.zip (args.map a.eval)).foldl (λtmps(t,x)=>tmps.setIfInBounds t x) r.tmps).map (A1 n)) r.assign r.body) B:=F;simp only[stepG.apply,s9,F,bP,M];simp[GStep.after,G,Lc,Frame.round,Frame.at,Bm,Dg,J5,Bw]
def EV.enterLoop{b:Frame}{d c}{I:iB}{e}(E:b.kind=.normal)(U:a.eval d=.func (.func c) #[] I)(y:Eg P.globals.size d=tu)(l:P.funcs[c]? = ni K)(s:(K.name == "runtime.NumGoroutine")=o9)(V:K.body=ni e)(D:∀g,EV P k J N (G ((base c).at { tmps:=(#[.func (.yield (v.heap.size+1)) #[] #[]]++I)++pf (K.ntmps - (#[vz (.yield (v.heap.size+1)) #[] #[]]++I).size) uw,defers:=[] } [.code e]) (b.at { a with defers:=[{ target:=.collected v.heap.size,args:=#[] }]++a.defers } (.inRangeFunc (v.heap.size+1) :: j) :: cs))
   {v.at g with heap:=(v.1.push (.deferred (ni []))).push (.loop { state:=.ready,pending:=su,fn:=b.fn,tmps:=a.tmps,params,assign,body,defers:=v.1.size }) }):EV P k J N (G (b.at a (.code (.rangeFunc d params assign body) :: j)) cs) v:=by
 have o:K.body.isNone=o9:=by rw[V];rfl
 refine EV.sem (f:=λn=>FE n) (t:=λn=>rq b.fn (a.tmps.map (A1 n)) params assign body su) iP (λn _=>JG b.fn a.tmps params assign body) λg=>?_;obtain⟨C,m⟩:=Lk (P:=P) (BH (w:=v.at g) (f:=b.fn) (tmps:=a.tmps) params assign body);refine⟨_,_,_,C,by rw[m];simp,iP,λn w B p F=>?_,D g⟩;have F:(rq b.fn (a.tmps.map (A1 n)) params assign body su).run P w=.ok (sh n (v.1.size+1),[{ target:=.collected (sh n v.1.size),args:=#[] }]) B:=by
  have:FE n (v.1.size+1,[{ target:=.collected v.1.size,args:=#[] }])=(sh n (v.1.size+1),[{ target:=.collected (sh n v.1.size),args:=#[] }]):=by simp[FE,O6,Wz]
  rwa[←this]
 refine⟨seen P b.fn ((rq b.fn (a.tmps.map (A1 n)) params assign body su).events P w #[])++seen P b.fn #[],?_,λi f=>?_⟩
 ·have H:∀L(I:iB)w,(jl c (#[.func (.yield L) #[] #[]]++I)).runT P w #[]=(.ok (.enter c (#[.func (.yield L) #[] #[]]++I)) w,#[]):=λL I w=>by
   unfold jl
   show(match P.funcs[c]? with|none=>_|some fn=>_:Sem Next).runT P w #[]=_;rw[l];dsimp only;rw[s,o]
   rfl
  have h:∀L(I:iB)(X:Frame),X.eval d=.func (.func c) #[] I->(do let g ←resolve X.eval { callee:=.value d,args:=#[.const (.func (.yield L) #[] #[])],argTypes:=#[] } 0;pj g.target g.args:Sem Next)=jl c (#[.func (.yield L) #[] #[]]++I):=λL I X S=>by
   unfold resolve;have i:(#[Operand.const (.func (.yield L) #[] #[])].map X.eval)=#[.func (.yield L) #[] #[]]:=by simp[Frame.eval]
   simp only[i,S,uj]
   rfl
  have M:(b.kind == pc)=o9:=by rw[E];rfl
  have q:(Bw n a).eval d=.func (.func c) #[] (I.map (A1 n)):=by rw[Hl p a d y,U];simp[Mp]
  have r:∀X:Frame,X.tmps=a.tmps.map (A1 n)->X.eval d=.func (.func c) #[] (I.map (A1 n)):=λX i=>by
   rw[←q];cases d <;> first|rfl|simp[Frame.eval,Act.eval,i,Bw]
  have f:Bm n ((base c).at { tmps:=(#[.func (.yield (v.1.size+1)) #[] #[]]++I)++pf (K.7 - (#[vz (.yield (v.1.size+1)) #[] #[]]++I).size) uw,defers:=[] } [.code e])=Frame.enter P c ((#[.func (.yield (sh n (v.1.size+1))) #[] #[]]++I.map (A1 n))) .normal:=by
   rw[←enter_at _ l V,←Kc];simp[Mp]
  show stepG P k (G (Bm n (b.at a (.code (.rangeFunc d params assign body) :: j))) (cs.map (Bm n))) w=.go (G (Bm n ((base c).at { tmps:=(#[.func (.yield (v.1.size+1)) #[] #[]]++I)++pf (K.7 - (#[vz (.yield (v.1.size+1)) #[] #[]]++I).size) uw,defers:=[] } [.code e])) (Bm n (b.at { a with defers:=[{ target:=.collected v.1.size,args:=#[] }]++a.defers } (.inRangeFunc (v.1.size+1) :: j)) :: cs.map (Bm n))) B _;rw[f,Gu,Gu];simp only[G,stepG,stepG.exec,Frame.at,bA,Dg];rw[show(Bw n a).tmps=a.tmps.map (A1 n) from iP];simp only[s9,F];rw[h _ _ _ (r _ iP)];obtain⟨Q,R⟩:=Lk (H (sh n (v.1.size+1)) (I.map (A1 n)) B);simp only[stepG.apply,s9,Q,R,bP,M];simp[GStep.after,Bw,O6,Wz]
 ·rcases cD.1 f with f|f
  ·exact om f
  ·rw[yo]at f;simp at f
def RS{r n}{Post:iA}(O:g[i]?=ni o)(e:yg o (gu g a.tmps)=tu)(T:o.op=.call { callee:=.value n,args,argTypes:=m })(U:a.eval n=.func (.yield l) #[] #[])(K:Fj w l r)(s:args.size=r.params.size)(W:¬J (.obj l))(y:Eg P.globals.size n=tu)(S:args.all (Eg P.globals.size)=tu)(f:∀d(c:Frame)cs,(∀B,Post B->EV P k J N (G (c.finish (vp tu)) cs) B)->EV P k J N (G (Lc l r.fn ((r.params.zip (args.map a.eval)).foldl (λtmps(t,x)=>tmps.setIfInBounds t x) r.tmps) [.code r.assign,.beginRound,.code r.body]) (c::cs)) (w.at d))(F:∀B,Post B->opsV P k J N fn g b Q (a.put o.dst (vp tu)) B):opsV P k J N fn g (i::b) Q a w:=by
 intro p j z D E M;refine EV.yield O e E T U K s W y S λd=>f d _ z λB h=>?_;rw[Frame.finish_at,O];exact F B h p j z D E M
def EV.back{h c l B X}(S:l.defers = [])(I:P.funcs[h]?=ni K)(g:(qe K l.tmps).run P B=.ok x B)(b:∀d,(qe K l.tmps).run P (B.at d)=.ok x (B.at d))(r:∀d,(qe K l.tmps).events P (B.at d) #[]=#[])(D:M P k J N (G (X.finish x) z) B):M P k J N (G { (base h).at l c with mode:=.returning } (X::z)) B:=
 M.step iP λi d=>⟨_,B.at d,stepR_ret iP S iP I i (b d) (λe a=>by have a:e∈(qe K l.tmps).events P _ #[]:=a;grind),D.at d⟩
def DL{v h}{cap:iB}{c}(f:qg→Prop)(U:a.eval v=.func (.func h) #[] cap)(y:Eg P.globals.size v=tu)(I:P.funcs[h]? = ni K)(s:(K.name == "runtime.NumGoroutine")=o9)(V:K.body=ni c)(g:∀tmps w,(qe K tmps).run P w=.ok (.tuple #[]) w)(x:∀tmps w,(qe K tmps).events P w #[]=#[])(m:∀d,Hj P k J N h c (λe l B=>(e=.normal∨e=.ret)∧l.defers = []∧f B) { tmps:=(#[.func (.yield (w.heap.size+1)) #[] #[]]++cap)++pf (K.ntmps - (#[vz (.yield (w.heap.size+1)) #[] #[]]++cap).size) uw,defers:=[] }
   {w.at d with heap:=(w.1.push (.deferred (ni []))).push (.loop { state:=.ready,pending:=su,fn:=fn,tmps:=a.tmps,params,assign,body,defers:=w.1.size }) })(W:¬J (.obj (w.1.size+1)))(o:∀B,f B->∃r,Fj B (w.1.size+1) r/\r.state=.ready/\r.pending=su/\∀d,Q .normal { a with defers:=[{ target:=.collected w.1.size,args:=#[] }]++a.defers } (E5 (B.at d) (w.1.size+1) { r with state:=.exhausted })):Hj P k J N fn (.rangeFunc v params assign body) Q a w:=by
 intro b j z D E M;subst D;refine EV.enterLoop E U y I s V λd=>?_;have p:∀i(l:Act)B,l.defers = []->f B->EV P k J N (G { (base h).at l i with mode:=.returning } (b.at { a with defers:=[{ target:=.collected w.1.size,args:=#[] }]++a.defers } (.inRangeFunc (w.1.size+1) :: j) :: z)) B:=λi l B S u=>by
  apply EV.back S I (g _ _) (λd=>g _ _) (λd=>x _ _)
  show EV P k J N (G (b.at { a with defers:=[{ target:=.collected w.1.size,args:=#[] }]++a.defers } (.endRangeFunc (w.1.size+1) :: j)) z) B;obtain⟨r,C,F,T,q⟩:=o B u;exact EV.endLoop C F T W λd=>M _ _ _ (q d)
 refine m d (base h) [] _ iP iP λe l B⟨t,S,u⟩=>?_;rcases t with rfl|rfl
 ·exact EV.ctl (p [] l B S u) iP iP λn H _=>gg (b:=base h) (a:=Bw n l)
 ·exact λi=>p i l B S u
def Zg{c}{args:iB}{d:w8→qg→Prop}{R:Array w8→w8}(I:P.funcs[f]? = ni K)(s:(K.name == "runtime.NumGoroutine")=o9)(V:K.body=ni c)(j:∀tmps w,(qe K tmps).run P w=.ok (R tmps) w)(r:∀tmps w,(qe K tmps).events P w #[]=#[])(m:Hj P k J N f c (λg a B=>(g=.normal∨g=.ret)∧∃y,a.defers = [{ target:=.collected y,args:=#[] }]∧B.heap[y]? = ni (.deferred (ni []))∧¬J (.obj y)∧∀e,d (R a.tmps) { B.at e with heap:=B.heap.setIfInBounds y (.deferred su) }) { tmps:=args++pf (K.ntmps - args.size) uw,defers:=[] } w):Bg P k J N f args w d:=by
 refine⟨K,c,I,s,V,λX cs L F=>?_⟩;have i:∀b(a:Act)B,(∃y,a.defers = [{ target:=.collected y,args:=#[] }]/\B.1[y]? = ni (.deferred (ni []))/\¬J (.obj y)/\∀e,d (R a.tmps) { B.at e with heap:=B.1.setIfInBounds y (.deferred su) })->EV P k J N (G { (base f).at a b with mode:=.returning } (X :: cs)) B:=by
  rintro b a B⟨y,S,D,l,Q⟩;exact EV.taken S D l λe=>EV.back iP I (j _ _) (λe=>j _ _) (λe=>r _ _) (F _ _ (Q e))
 refine m (base f) [] (X :: cs) iP iP λg h B⟨o,Q⟩=>?_;rcases o with rfl|rfl
 ·exact EV.ctl (i [] h B Q) iP iP λn H _=>gg (b:=base f) (a:=Bw n h) (cs:=(X :: cs).map (Bm n))
 ·exact λb=>i b h B Q
end
def I3(v:qg):Loc->Prop
 |.cell a=>∃x,v.cell? a=ni x
 |.obj r=>∃o,v.1[r]?=ni o/\Ci o
 |_=>False
def Ph(B:Nat):Loc->Prop
 |.cell a=>a.block<B
 |.obj r=>r<B
 |_=>False
def CI(B:Nat):Loc->Prop
 |.cell a=>B<=a.block
 |.obj r=>B<=r
 |_=>False
def KJ(Own:hZ)(Cs:hY)(B:Nat)(e:Event):Prop:=
 match e.loc with
 |.cell a=>Own (.cell a)/\a.block<B
 |.obj r=>(Own (.obj r)∨(Cs r/\e.write=o9/\e.sync=tu))/\r<B
 |.mark m=>Ajx m
 |_=>False
structure Dq(P:vg)(n)(J Own:hZ)(g v w):Prop where
 sm:∀t,Sm n t J v w
 fix:n.Fix P.globals.size
 glob:P.globals.size<=iS v.1
 wf:Wf J g v
 own:∀l,I3 v l->¬J l->Own (Gg n l)
section
variable {k:Bool} {J Own:hZ}
def Sm.less{t S}(h:Sm n t J v e)(R:S<=t):Sm n S J v e:=⟨λj l=>h.top j Aa,h.lt,h.out,h.4,h.tape,h.drawn,h.os,h.output⟩
def Dq.at(a:Dq P n J Own h v e)(d):Dq P n J Own h (v.at d) (e.at d):=⟨λt=>(a.sm t).at d,a.fix,a.glob,a.wf.at d,a.own⟩
def Dq.drawn(a:Dq P n J Own h v e):=(a.sm 0).drawn
def Dq.mono(a:Dq P n J Own h v e)(H:∀l,Own l->Own' l):Dq P n J Own' h v e:=⟨a.sm,a.fix,a.glob,a.wf,λl K b=>H _ (a.own l K b)⟩
def Tz(f:Da v v' X)(W:I3 v' l):I3 v l∨CI v.1.size l:=by
 cases l with
 |cell a=>
  by_cases Y:a.block<iS v.1
  ·left
   obtain⟨x,Z⟩:=W;have O:v.1[a.block]?=ni v.1[a.block]:=aO Y
   show ∃x,v.cell? a=ni x;cases b:v.1[a.block] with
   |cells c e d=>
    rw[b]at O;obtain⟨B,C,J⟩:=f.row _ _ _ _ O;unfold sw at Z⊢
    grind
   |_=>
    exfalso;rw[b]at O;obtain⟨I,C,J⟩:=f.5 _ _ O (λ_ _ _ e=>BB);unfold sw at Z;rw[C]at Z;cases I with
    |cells c e d=>exact J.1 _ _ _ iP
    |_=>simp at Z
  ·exact n9 (by show iS v.1<=a.block;omega)
 |obj r=>
  by_cases Y:r<iS v.1
  ·left
   obtain⟨I,C,J⟩:=W;have O:v.1[r]?=ni v.1[r]:=aO Y;refine⟨_,O,λc e d b=>?_⟩;rw[b]at O;obtain⟨B,T,_⟩:=f.row _ _ _ _ O;rw[C]at T;exact J _ _ _ (aA T)
  ·exact n9 (by show iS v.1<=r;omega)
 |_=>exact W.elim
def Ain{t}(h:Sm n t J v e)(K:CI v.1.size l):CI e.1.size (Gg n l):=by
 cases l with
 |cell a=>exact h.out _ K
 |obj r=>exact h.out _ K
 |_=>exact K.elim
def Nj{t}(h:Sm n t J v e){l}(K:I3 v l):Ph e.1.size (Gg n l):=by
 cases l with
 |cell a=>
  have ⟨x,Z⟩:=K;exact h.lt _ (Jw Z)
 |obj r=>
  have ⟨o,O,_⟩:=K;exact h.lt _ (aH.1 O).1
 |_=>exact K.elim
def Dq.step(a:Dq P n J Own h v e)(s:Hk P k J h v g' v')(H:∀l,Ph e.1.size l->Own l->Own' l)(S:∀l,CI e.1.size l->Own' l):∃B X L,stepG P k (Bn n h) e=.go (Bn n g') B X/\Dq P n J Own' g' v' B/\Da e B L/\(∀b∈L,KJ Own' (λx=>∃r,J (.obj r)/\x=sh n r) B.1.size b)/\∀b∈X,b∈L:=by
 obtain⟨B,X,L,C,y,T,q,p⟩:=s.all n v'.1.size e a.fix (aB _) (a.sm _);obtain⟨F,Q,_⟩:=s.frame;have u:∀t,Sm n t J v' B:=λt=>by
  obtain⟨E,m,w,f,i,_⟩:=s.all n (max t v'.1.size) e a.fix (Nat.le_max_right ..) (a.sm _);rw[C]at f;injection f with _ b _;subst b;exact i.less (Nat.le_max_left ..)
 have d:∀l,I3 v' l->¬J l->Own' (Gg n l):=λl K c=>by
  rcases Tz Q K with x|x
  ·exact H _ (Nj (a.sm 0) x) (a.own l x c)
  ·exact S _ (Ain (a.sm 0) x)
 refine⟨B,X,L.map (Kt n),C,⟨u,a.fix,aF a.glob Q.size,a.wf.step a.glob s,d⟩,T,λb N=>?_,p⟩;obtain⟨x,Z,rfl⟩:=Array.mem_map.1 N;obtain⟨K,c⟩:=q x Z;obtain⟨j,wr,Y⟩:=x;cases j with
 |cell g=>exact⟨d (.cell g) K c.cell,Nj (u 0) (l:=.cell g) K⟩
 |obj r=>
  obtain⟨o,O,z,_⟩:=K;refine⟨?_,Nj (u 0) (l:=.obj r) ⟨o,O,z⟩⟩;by_cases W:J (.obj r)
  ·exact n9 ⟨⟨r,W,iP⟩,(c W).2.1,(c W).2.2⟩
  ·exact p8 (d (.obj r) ⟨o,O,z⟩ W)
 |mark A=>exact K
 |_=>exact K.elim
def Dq.other(a:Dq P n J Own h v e)(f:Da e d L)(N:∀b∈L,b.write=tu->Ph e.1.size b.loc->¬Own b.loc)(H:∀l,Ph e.1.size l->Own l->Own' l):∃D,Dq P D J Own' h (v.at d.drawn) d/\Bn D h=Bn n h/\∀i,i<iS v.1->sh D i=sh n i:=by
 have j:=λg=>(a.sm 0).other a.wf (⟨λb Z W i k K⟨x,s⟩=>cL λc=>N b Z W (K▸Nj (a.sm 0) (l:=.cell (iK i k)) ⟨x,s⟩) (K▸a.own (.cell (iK i k)) ⟨x,s⟩ c),λb Z W i o K O M=>cL λc=>N b Z W (K▸Nj (a.sm 0) (l:=.obj i) ⟨o,O,M⟩) (K▸a.own (.obj i) ⟨o,O,M⟩ c)⟩) f g;have S:∀i,i<iS v.1->sh (n.grow v.1.size d.1.size ((a.sm 0).lt' f)) i=sh n i:=λi V=>Yt V;have m:∀l,I3 v l->Gg (n.grow v.1.size d.1.size ((a.sm 0).lt' f)) l=Gg n l:=λl K=>by
  cases l with
  |cell p=>
   have ⟨x,Z⟩:=K;simp only[Gg,Ei,S _ (Jw Z)]
  |obj r=>
   have ⟨o,O,_⟩:=K;simp only[Gg,S _ (aH.1 O).1]
  |_=>exact K.elim
 refine⟨_,⟨λg=>(j g).1,λi V=>?_,a.glob,a.wf.at _,λl K c=>?_⟩,(j 0).2,S⟩
 ·exact Geh
 ·have R:=K;rw[m l R];exact H _ (Nj (a.sm 0) R) (a.own l R c)
end
section
variable {p:hZ} {N:Nat} {LA LB b g:qg->Loc->Bool->Prop} {u:ql} {a:Nat}
def Anr(t:ql)(g){l:List MemOp}(h:∀a∈l,∀m,a.act≠.mark m):∀d,l.foldl (deafStep g) d=d:=by
 induction l with
 |nil=>exact λ_=>rfl
 |cons y l O=>
  intro d;have U:=h y Ad;have b:deafStep g d y=d:=by
   have ⟨c,G,e,P⟩:=y;cases P<;>first|rfl|exact absurd iP (U _)
  grind
def Ail(af:0<k)(j:TI p k q N LA LB t e 0 0){c x y z v}(Z:x.g=k/\x.act=.send c s)(U:y.g=0/\y.act=.recv c s 0)(m:z.g=k/\z.act=.sendDone c s)(n:v.g=0/\v.act=.recvDone c s)(X:iS e.1<=iS d.1)(M:c<iS d.1):TI p k q N b g (t++#[x,y,z,v]) d 0 0:=by
 have K:∀f∈(#[x,y,z,v]:ql),f.act.touch? = su/\(∀Y,f.act≠.mark Y)/\f.act.low d.1.size/\(f.g=0∨f.g=k):=λf T=>by
  simp at T;rcases T with rfl|rfl|rfl|rfl
  ·rw[Z.2];exact⟨iP,Ad,M,n9 Z.1⟩
  ·rw[U.2];exact⟨iP,Ad,M,p8 U.1⟩
  ·rw[m.2];exact⟨iP,Ad,M,n9 m.1⟩
  ·rw[n.2];exact⟨iP,Ad,M,p8 n.1⟩
 have E:∀a,Deaf (t++#[x,y,z,v]) a=Deaf t a:=λa=>lg t a _ λf T=>⟨(K f T).2.1 .disable,(K f T).2.1 .enable⟩;have Q:(t++#[x,y,z,v])[t.size]?=ni x:=Ad;have R:(t++#[x,y,z,v])[t.size+1]?=ni y:=by rw[eJ Aa];simp
 have V:(t++#[x,y,z,v])[t.size+2]?=ni z:=by rw[eJ Aa];simp
 have w:(t++#[x,y,z,v])[t.size+3]?=ni v:=by rw[eJ Aa];simp
 have l:∀a {f},f∈(#[x,y,z,v]:ql)->∀r,deafStep a r f=r:=λa f T r=>by
  have:=Anr t a (l:=[f]) (λD O=>by simp at O;subst O;exact(K _ T).2.1) r;simpa using this
 have F:∀a,(t++#[x,y,z,v]).deaf a t.size=Deaf t a:=λa=>deaf_old (aB _);have G:∀a,(t++#[x,y,z,v]).deaf a (t.size+1)=Deaf t a:=λa=>by rw[deaf_succ Q,l a Ad,F]
 have H:∀a,(t++#[x,y,z,v]).deaf a (t.size+2)=Deaf t a:=λa=>by rw[deaf_succ R,l a Ad,G]
 have a1:∀a,(t++#[x,y,z,v]).deaf a (t.size+3)=Deaf t a:=λa=>by rw[deaf_succ V,l a Ad,H]
 have I:∀i h,touchAt (t++#[x,y,z,v]) i=ni h->touchAt t i=ni h:=λi h B=>by
  obtain⟨D,O,S⟩:=touch_of B;rcases getElem?_append_cases O with⟨_,a6⟩|⟨_,a7⟩
  ·rwa[touchAt_of a6]
  ·rw[(K D a7).1]at S;cases S
 have a8:HappensBefore (t++#[x,y,z,v]) t.size (t.size+3):=
  .single (n9 ⟨.handOver (c:=c) (k:=s) (by rw[act?_of Q,Z.2]) (by rw[act?_of w,n.2]),⟨k,by simp only[r8,Q,aI,Z.1],by rw[F];exact j.6⟩,⟨0,by simp only[r8,w,aI,n.1],by rw[a1];exact j.5⟩⟩)
 have A:∀{i a},t.g? i=ni a->Knows t a i:=λ{i a} hg=>by
  obtain⟨D,O,aa⟩:=bB.1 hg;have:=knows_own O
  rwa[aa]at this
 refine⟨λab=>?_,λi h B L=>?_,λi h B L=>?_,Qs j.over λf T=>(K f T).2.2.2.elim p8 λo=>n9 (p8 o),(E 0).trans j.5,(E k).trans j.6,R7 j.seen X λf T=>(K f T).2.2.1⟩
 ·rintro⟨i,P,ad,⟨h,W,B,hb,ae⟩,J,u⟩;exact j.clean ab ⟨i,P,ad,⟨h,W,I i h B,I P W hb,ae⟩,λo=>J (hb_app _ o),λo=>u (hb_app _ o)⟩
 ·rcases j.2 i h (I i h B) L with C|C|⟨C,_⟩
  ·exact p8 (C.app _)
  ·exact n9 (p8 C)
  ·exact p8 ⟨t.size+3,v,w,n.1,n9 (((A C).hb_new (aB _) Q Z.1).trans a8)⟩
 ·rcases j.3 i h (I i h B) L with C|C|⟨C,_⟩
  ·exact p8 (C.app _)
  ·exact n9 (p8 C)
  ·exact p8 ⟨t.size+2,z,V,m.1,n9 (((A C).hb_new Aa R U.1).trans (.single (n9 ⟨.room (c:=c) (k:=s) (cap:=0) (by rw[act?_of R,U.2]) (by rw[act?_of V,m.2];rfl),⟨0,by simp only[r8,R,aI,U.1],by rw[G];exact j.5⟩,⟨k,by simp only[r8,V,aI,m.1],by rw[H];exact j.6⟩⟩)))⟩
end
structure Mv where
 Shun:Loc->Prop
 k:Nat
 Wg:Nat
 Ch:Nat
 Ro:Loc->Prop
structure Mv.Ok(C:Mv):Prop where
 hk:0<C.k
 wgS:∀l,Gy C.Wg l->¬C.Shun l
 chS:¬C.Shun (.obj C.Ch)
 ro:∀l,C.5 l->¬Gy C.Wg l/\l≠.obj C.Ch/\¬C.Shun l
def Mv.A(C:Mv)(KB:hZ)(l:Loc):Prop:=¬KB l/\¬C.5 l/\¬Gy C.Wg l/\l≠.obj C.Ch/\¬C.Shun l
def Mv.B(C:Mv)(KB:hZ)(l:Loc):Prop:=KB l/\¬C.5 l/\¬Gy C.Wg l/\l≠.obj C.Ch/\¬C.Shun l
abbrev Mv.LA(C:Mv)(KB:hZ):qg->Loc->Bool->Prop:=λ_ l x=>C.A KB l∨(x=o9/\C.5 l)
abbrev Mv.LB(C:Mv)(KB:hZ):qg->Loc->Bool->Prop:=λ_ l x=>C.B KB l∨(x=o9/\C.5 l)
abbrev Mv.TI(C:Mv)(KB:hZ)(t:ql)(w:qg)(dA dB:Nat):Prop:=Pair.TI C.Shun C.k C.Wg C.Ch (C.LA KB) (C.LB KB) t w dA dB
section
variable {C:Mv} {b:hZ} {a:Nat}
def Mv.Ok.parts(O:C.Ok)(Q):DQ C.Shun C.Wg C.Ch (C.LA Q) (C.LB Q):=by
 refine⟨λ_ l x y h P=>?_,λ_ l x h=>(h.elim (λh=>h.2.2) λh=>O.ro _ h.2),λ_ l x h=>(h.elim (λh=>h.2.2) λh=>O.ro _ h.2),λ_ _ _ _ _ h=>h,λ_ _ _ _ _ h=>h,O.wgS,O.chS⟩
 ·rcases h with h|⟨rfl,h⟩<;>rcases P with P|⟨rfl,P⟩
  ·exact absurd P.1 h.1
  ·exact absurd P h.2.1
  ·exact absurd h P.2.1
  ·exact⟨iP,iP⟩
def Aan{B}{P:MemAct}{a}(h:P.touch? = ni a)(K:P.low B):a.loc.low B:=by
 unfold MemAct.touch? at h;split at h
 ·cases h;exact K
 ·cases h;exact K
 ·cases h;exact K
 ·cases h
def JR(h:C.TI Q t e a f)(s:iS e.1<=iS d.1)(p:∀l,l.low e.1.size->(Q l↔b l)):C.TI b t d a f:=by
 have k:∀i g,touchAt t i=ni g->g.loc.low e.1.size:=λi g j=>by
  have ⟨x,Z,B⟩:=touch_of j;exact Aan B (h.seen x (cI Z))
 refine⟨h.clean,λi g j L=>?_,λi g j L=>?_,h.over,h.5,h.6,λm T=>MemAct.low_mono s (h.seen m T)⟩
 ·rcases h.2 i g j L with c|c|⟨c,J⟩
  ·exact p8 c
  ·exact n9 (p8 c)
  ·exact n9 (n9 ⟨c,J.imp (λx=>x.imp (λx=>⟨(p _ (k i g j)).1 x.1,x.2⟩) id) id⟩)
 ·rcases h.3 i g j L with c|c|⟨c,J⟩
  ·exact p8 c
  ·exact n9 (p8 c)
  ·exact n9 (n9 ⟨c,J.imp (λx=>x.imp (λx=>⟨λy=>x.1 ((p _ (k i g j)).2 y),x.2⟩) id) id⟩)
def Wi{d B e}(h:KJ d c B e){b}(D:(MemAct.ofEvent e).touch? = ni b):d b.loc∨∃r,b.loc=.obj r/\c r/\b.kind=.atomic:=by
 have ⟨l,wr,Y⟩:=e;cases l with
 |cell a=>
  have:b.loc=.cell a:=by cases wr<;>cases Y<;>simp[MemAct.ofEvent,MemAct.touch?]at D<;>subst D<;>rfl
  rw[this];exact p8 h.1
 |obj r=>
  have:b.loc=.obj r:=by cases wr<;>cases Y<;>simp[MemAct.ofEvent,MemAct.touch?]at D<;>subst D<;>rfl
  rcases h.1 with C|⟨C,J,T⟩
  ·grind
  ·refine n9 ⟨r,this,C,?_⟩;subst J T;simp[MemAct.ofEvent,MemAct.touch?]at D;subst D
   rfl
 |mark m=>cases m<;>first|exact h.elim|(cases wr<;>cases Y<;>simp[MemAct.ofEvent,MemAct.touch?]at D)
 |_=>exact h.elim
def GY{b B e}(h:KJ b c B e):(MemAct.ofEvent e).low B:=by
 have ⟨l,wr,Y⟩:=e;cases l with
 |cell a=>cases wr<;>cases Y<;>exact h.2
 |obj r=>cases wr<;>cases Y<;>exact h.2
 |mark m=>cases m<;>first|exact h.elim|(cases wr<;>cases Y<;>trivial)
 |_=>exact h.elim
def Wh{a B e}(h:KJ a c B e):e.loc≠.mark .disable/\e.loc≠.mark .enable:=by
 have ⟨l,wr,Y⟩:=e;cases l with
 |mark m=>cases m<;>first|exact h.elim|simp
 |_=>simp
def XO{b B e}(h:KJ b c B e)(a):MemAct.ofEvent e≠.mark (.release a):=by
 have ⟨l,wr,Y⟩:=e;cases l with
 |cell a=>cases wr<;>cases Y<;>simp[MemAct.ofEvent]
 |obj r=>cases wr<;>cases Y<;>simp[MemAct.ofEvent]
 |mark m=>cases m<;>first|exact h.elim|(cases wr<;>cases Y<;>simp[MemAct.ofEvent])
 |_=>exact h.elim
def Afs(O:C.Ok)(h:C.TI Q t e a f)(s:iS e.1<=iS d.1)(N:∀c∈X,KJ (C.A Q) (· = C.Ch) d.1.size c)(u b):C.TI Q (t++MemOp.ofEvents 0 u b X) d a f:=by
 refine TI.appA (O.parts Q) O.1 (JR h s λ_ _=>Iff.rfl) (.refl _) (λg T=>Ck T) (λg T j D _=>?_) ?_ (λg T=>?_)
 ·exact V6n
 ·rw[ui,jz λc Z=>Wh (N c Z)];exact h.5
 ·obtain⟨c,Z,rfl⟩:=o1 T;exact GY (N c Z)
def Aft(O:C.Ok)(h:C.TI Q t e a f)(s:iS e.1<=iS d.1)(p:∀l,l.low e.1.size->(Q l↔b l))(N:∀c∈X,KJ (C.B b) (· = C.Ch) d.1.size c)(u m):C.TI b (t++MemOp.ofEvents C.k u m X) d a f:=by
 refine TI.appB (O.parts b) O.1 (JR h s p) (.refl _) (λg T=>Ck T) (λg T j D _=>?_) ?_ (λg T=>?_)
 ·exact V6n
 ·rw[ui,jz λc Z=>Wh (N c Z)];exact h.6
 ·obtain⟨c,Z,rfl⟩:=o1 T;exact GY (N c Z)
def Afr(O:C.Ok)(h:C.TI Q t e a f)(N:∀c∈X,∃b,c=⟨.cell b,o9,o9⟩/\C.5 (.cell b)/\b.block<iS e.1)(u d):C.TI Q (t++MemOp.ofEvents 0 u d X) e a f/\C.TI Q (t++MemOp.ofEvents C.k u d X) e a f:=by
 have i:∀c∈X,c.loc≠.mark .disable/\c.loc≠.mark .enable:=λc Z=>Ai
 constructor
 ·refine TI.appA (O.parts Q) O.1 h (.refl _) (λg T=>Ck T) (λg T j D _=>?_) ?_ (λg T=>?_)
  ·obtain⟨c,Z,rfl⟩:=o1 T;obtain⟨b,rfl,k,_⟩:=N c Z;simp[MemAct.ofEvent,MemAct.touch?]at D
   grind
  ·rw[ui,jz i];exact h.5
  ·exact X5d
 ·refine TI.appB (O.parts Q) O.1 h (.refl _) (λg T=>Ck T) (λg T j D _=>?_) ?_ (λg T=>?_)
  ·obtain⟨c,Z,rfl⟩:=o1 T;obtain⟨b,rfl,k,_⟩:=N c Z;simp[MemAct.ofEvent,MemAct.touch?]at D;subst D;exact p8 (n9 ⟨iP,k⟩)
  ·rw[ui,jz i];exact h.6
  ·exact X5d
end
def M3(r:Nat):Loc->Prop
 |.cell a=>a.block=r
 |.obj i=>i=r
 |_=>False
def BK(n g x):jy (Bn n g) (A1 n x)=Bn n (jy g x):=by
 unfold jy Bn;rw[show(Bm n g.frame).finish _=Bm n _ from Md _ _]
def Vo(n g):jy (Bn n g) uw=Bn n (jy g uw):=by
 unfold jy Bn;rw[show(Bm n g.frame).finish uw=Bm n _ from Ow _]
def Ren.ins(n k r W)(h:∀i,i<k->sh n i<W)(hr:r<W)(hn:∀i,i<k->sh n i≠r):Ren:=⟨λi=>if i<k then n.f i else if i=k then r else W+(i - k - 1),λ{i j} e=>by
 have a:=h i;have b:=h j;have c:=hn i;have d:=hn j;unfold sh at a b c d;by_cases h1:i<k
 ·by_cases h2:j<k
  ·rw[aJ h1,aJ h2]at e;exact n.inj e
  ·rw[aJ h1,aL h2]at e;have:=a h1;have:=c h1;split at e<;>omega
 ·by_cases h2:j<k
  ·rw[aL h1,aJ h2]at e;have:=b h2;have:=d h2;split at e<;>omega
  ·rw[aL h1,aL h2]at e;split at e<;>split at e<;>omega⟩
section
variable {k:Bool} {J Own:hZ} {Bs:hY}
def Ik:(Bb Bs v).1.size=iS v.1:=by unfold Bb;simp
def OP(k:RowsIn Bs v)(h:I3 (Bb Bs v) l):I3 v l/\∀i,Bs i->¬M3 i l:=by
 cases l with
 |cell a=>
  have ⟨x,Z⟩:=h;have z:¬Bs a.block:=λD=>by rw[Yp (Ga k) D]at Z;cases Z
  refine⟨⟨x,?_⟩,λi V e=>z (by have E:=e;rwa[E])⟩;have:=Un (w:=v) (u:=Bb Bs v) z;rw[Jc k]at this;exact this.trans Z
 |obj r=>
  have ⟨o,O,M⟩:=h;have z:¬Bs r:=λD=>by
   have ⟨c,e,b,Y⟩:=k r D;rw[Bu,Y,aI,aJ D]at O;obtain rfl:=aA O;exact M _ _ _ iP
  refine⟨⟨o,?_,M⟩,λi V e=>z (by rwa[e])⟩;rw[Bu]at O
  grind
 |_=>exact h.elim
def YA(h:¬M3 i l):¬M3 (sh n i) (Gg n l):=by
 cases l with
 |cell a=>exact λe=>h (Gx (n:=n) e)
 |obj r=>exact λe=>h (Gx (n:=n) e)
 |_=>exact id
def Dq.hide(a:Dq P n J Own h v e)(k:RowsIn Bs v)(G:Bn (.up v.1.size) g'=g')(H:∀l,Own l->(∀i,Bs i->¬M3 (sh n i) l)->Own' l):Dq P n J Own' g' (Bb Bs v) e:=by
 refine⟨λt=>Sm.hide (Ga k) (by rw[Jc k];exact a.sm t),a.fix,by rw[Ik];exact a.glob,⟨λi o O=>?_,by rwa[Ik]⟩,λl K b=>?_⟩
 ·rw[Ik];rw[Bu]at O;cases Y:v.1[i]? with
  |none=>grind
  |some p=>
   by_cases D:Bs i
   ·have ⟨d,f,g,M⟩:=k i D;rw[Y]at M;obtain rfl:=aA M;rw[Y,aI,aJ D]at O;obtain rfl:=aA O;exact p8 (by simp[Tc,Dt])
   ·rw[Y,aI,aL D]at O;obtain rfl:=aA O;exact a.wf.mem i p Y
 ·have ⟨C,c⟩:=OP k K;exact H _ (a.own l C b) λi V=>YA (c i V)
def Dq.give(a:Dq P n J Own h v e){o s}(Y:e.1[r]?=ni s)(k:s=o∨∃B d A,o=jf #[] d A/\s=jf B d A)(z:∀i,i<iS v.1->sh n i≠r)(O:∀m,Dt m o=o)(G:Bn (.up (iS v.1+1)) g'=g')(H:∀l,Own l->Own' l)(g:∀l,M3 r l->Own' l):∃b,Dq P b J Own' g' { v with heap:=v.1.push o } e/\sh b v.1.size=r/\∀i,i<iS v.1->sh b i=sh n i:=by
 let b:Ren:=n.ins v.1.size r e.1.size (a.sm 0).lt ((aH.1 Y).1) z
 have S:∀i,i<iS v.1->sh b i=sh n i:=λi V=>aJ V;have L:sh b v.1.size=r:=by
  show(if iS v.1<iS v.1 then _ else if iS v.1=iS v.1 then r else _)=r;simp
 have F:∀i,iS v.1<i->sh b i=iS e.1+(i - iS v.1 - 1):=λi V=>by
  show(if i<iS v.1 then _ else if i=iS v.1 then r else _)=_
  grind
 have I:∀i p,({ v with heap:=v.1.push o }:qg).1[i]?=ni p->(i=iS v.1/\p=o)∨(i<iS v.1/\v.1[i]?=ni p):=λi p Q=>by
  have X:(v.1.push o)[i]?=ni p:=Q
  grind
 have u:({ v with heap:=v.1.push o }:qg).1.size=iS v.1+1:=Ad;have q:=a.sm 0;refine⟨b,⟨λt=>⟨λj _=>?_,λi V=>?_,λi V=>?_,λi p Q=>?_,q.tape,q.drawn,q.os,q.output⟩,λi V=>?_,by rw[u];exact Nat.le_succ_of_le a.glob,⟨λi p Q=>?_,by rwa[u]⟩,λl K R=>?_⟩,L,S⟩
 ·rw[u,F _ Aa];omega
 ·rw[u]at V
  grind
 ·rw[u]at V;rw[F i Aa];omega
 ·rcases I i p Q with⟨rfl,rfl⟩|⟨V,X⟩
  ·rw[L];rcases k with rfl|k
   ·exact⟨_,Y,p8 (O _).symm⟩
   ·exact⟨s,Y,n9 (n9 (n9 (let⟨B,d,A,C,y⟩:=k;⟨B,d,A,C,y⟩)))⟩
  ·rw[S i V];obtain⟨s,C,y⟩:=q.4 i p X;exact⟨s,C,LikeO.ag (UD λi V=>(S i V).symm) (a.wf.mem i p X) y⟩
 ·exact Geh
 ·rw[u];rcases I i p Q with⟨rfl,rfl⟩|⟨V,X⟩
  ·exact p8 (O _).symm
  ·exact LikeO.ag (VY (cQ _)) (a.wf.mem i p X) (a.wf.mem i p X)
 ·have D:I3 v l∨M3 v.1.size l:=by
   cases l with
   |cell c=>
    obtain⟨x,Z⟩:=K;by_cases f:c.block=iS v.1
    ·exact n9 f
    ·left
     refine⟨x,?_⟩;unfold sw at Z⊢
     rwa[show({ v with heap:=v.1.push o }:qg).1[c.block]?=v.1[c.block]? from by rw[show({ v with heap:=v.1.push o }:qg).1=v.1.push o from rfl,Wj,aL f]]at Z
   |obj i=>
    obtain⟨p,Q,M⟩:=K;rcases I i p Q with⟨rfl,_⟩|⟨_,X⟩
    ·exact n9 iP
    ·exact p8 ⟨p,X,M⟩
   |_=>exact K.elim
  rcases D with D|D
  ·have:Gg b l=Gg n l:=by
    cases l with
    |cell c=>
     obtain⟨x,Z⟩:=D;simp only[Gg,Ei,S _ (Jw Z)]
    |obj i=>
     obtain⟨p,Q,_⟩:=D;simp only[Gg,S _ (aH.1 Q).1]
    |_=>exact D.elim
   rw[this];exact H _ (a.own l D R)
  ·apply g _;cases l with
   |cell c=>
    show sh b c.block=r
    rwa[show c.block=iS v.1 from D]
   |obj i=>
    show sh b i=r
    rwa[show i=iS v.1 from D]
   |_=>exact D.elim
end
structure Mv.RoR(C:Mv)(w w':qg):Prop where
 size:iS w.1<=iS w'.1
 cell:∀a:Addr,C.5 (.cell a)->a.block<iS w.1->w'.cell? a=w.cell? a
 row:∀(r:Nat)(c:iB)e(fz:Nat×Nat),w.1[r]?=ni (jf c e fz)->∃c',w'.1[r]?=ni (jf c' e fz)/\c'.size=c.size
 obj:∀r(o:Obj),C.5 (.obj r)->w.1[r]?=ni o->Ci o->w'.1[r]?=ni o
def Mv.RoR.refl{C:Mv}(w):C.RoR w w:=⟨aB _,λ_ _ _=>rfl,λ_ c _ _ h=>⟨c,h,iP⟩,λ_ _ _ h _=>h⟩
def Mv.RoR.trans{C:Mv}{a b c}(h:C.RoR a b)(P:C.RoR b c):C.RoR a c:=⟨aF h.size P.size,λx Z K=>(P.cell x Z (aC K h.size)).trans (h.cell x Z K),λr x e d Y=>by
 have ⟨N,S,l⟩:=h.row r x e d Y;have ⟨H,L,R⟩:=P.row r N e d S
 grind,λr o Y O z=>P.obj r o Y (h.obj r o Y O z) z⟩
def Mv.RoR.at{C:Mv}{a b}(h:C.RoR a b)(d):C.RoR a (b.at d):=⟨h.size,h.cell,h.row,h.obj⟩
def SU{C:Mv}(O:C.Ok){B}(f:Da w B L)(N:∀e∈L,Gy C.Wg e.loc∨e.loc=.obj C.Ch):C.RoR w B:=by
 refine⟨f.size,λa d K=>f.cell a K λe Z _ D=>?_,f.row,λr o Y b z=>f.obj r o b z λe Z _ D=>?_⟩
 ·rcases N e Z with h|h
  ·rw[D]at h;exact(O.ro _ d).1 h
  grind
 ·rcases N e Z with h|h
  ·have ⟨a,S,_⟩:=h
   grind
  ·rw[D]at h;exact(O.ro _ Y).2.1 h
structure Mw where
 L:Mv
 P:vg
 ty:mi
 ChL:Nat
 WgL:Nat
 ChB:Nat
 WgB:Nat
 NA:Nat
 N0:Nat
 fA:Nat->Nat
 fB:Nat->Nat
 w0:qg
 low:Nat
 JA:Loc->Prop
 JB:Loc->Prop
 msgT:mi
 msgV:Nat->Array w8->w8
 FinA:o5->qg->Prop
 FinB:(Nat->Prop)->o5->qg->Prop
def Mw.msgO(D:Mw)(m:iB):Obj:=jf m D.16 (0,0)
structure Mw.Ok(D:Mw):Prop where
 lot:D.L.Ok
 neq:D.L.Wg≠D.L.Ch
 wgLow:D.L.Wg<D.low
 chLow:D.L.Ch<D.low
 shLow:∀l,D.L.Shun l->Ph D.low l
 roLow:∀l,D.L.5 l->Ph D.low l
 jb:∀i j,D.JB (.cell (iK i j))->i<D.9
 ja:D.JA (.obj D.4)
 jaO:∀r,D.JA (.obj r)->r=D.4
 jbO:∀r,D.JB (.obj r)->r=D.6
 msg:∀n i m,A1 n (D.17 i m)=D.17 (sh n i) m
structure Mw.AtRecv(D:Mw)(z)(g:o5):Prop where
 run:g.status=.running
 comm:∀n(w:qg),n.Fix D.P.globals.size->stepG D.P tu (Bn n g) w=.comm (core (Bn n g)) #[rcase (sh n D.4) z] tu (.recv tu) w #[]
structure Mw.AtSend(D:Mw)(i)(m:iB)(z)(g:o5):Prop where
 run:g.status=.running
 ints:m.map (A1 .one)=m/\∀n,m.map (A1 n)=m
 comm:∀n(w:qg),n.Fix D.P.globals.size->stepG D.P o9 (Bn n g) w=.comm (core (Bn n g)) #[scase (sh n D.6) (D.17 (sh n i) m) z] tu .send w #[]
def ScA(D:Mw):List (Array w8)->o5->qg->Prop
 |[],g,v=>(∃z,D.AtRecv z g)/\D.18 g v
 |m::ms,g,v=>(∃z,D.AtRecv z g)/\M D.P tu D.JA (ScA D ms) (jy (core g) (my #[D.17 v.1.size m,vp tu])) { v with heap:=v.1.push (D.msgO m) }
def ScB(D:Mw):List (Array w8)->(Nat->Prop)->o5->qg->Prop
 |[],S,g,v=>g.status=.running/\D.19 S g v
 |m::ms,S,g,v=>∃i z,D.AtSend i m z g/\(D.9<=i/\¬S i)/\v.1[i]?=ni (D.msgO m)/\M D.P o9 D.JB (ScB D ms λj=>S j∨j=i) (jy (core g) uw) (Bb (· = i) v)
structure Gb(D:Mw)(KB:hZ)(S:hY)(n g v n' g')(v' w:qg):Prop where
 lowW:D.low<=iS w.1
 kb:∀l,KB l->Ph w.1.size l
 sa:Dq D.P n D.JA (D.L.A KB) g v w
 sb:Dq D.P n' D.JB (D.L.B KB) g' v' w
 ca:D.4<iS v.1/\sh n D.4=D.L.Ch
 cb:D.6<iS v'.1/\sh n' D.6=D.L.Ch
 ga:D.5<iS v.1/\sh n D.5=D.L.Wg
 gb:D.7<iS v'.1/\sh n' D.7=D.L.Wg
 hN:D.9<=iS v'.1
 same:D.8<=iS v.1/\(∀i,i<D.8->sh n i=D.fA i)/\(∀i,i<D.9->sh n' i=D.fB i)/\D.L.RoR D.w0 w
 disj:∀i j,i<iS v.1->D.9<=j->j<iS v'.1->¬S j->sh n i≠sh n' j
 new:∀j,D.9<=j->j<iS v'.1->D.low<=sh n' j
structure Gh(D KB ms S TA TB n g v n' g' v' w t):Prop extends Gb D KB S n g v n' g' v' w where
 fa:FwT D.P tu D.JA (ScA D ms) TA g v
 fb:FwT D.P o9 D.JB (ScB D ms S) TB g' v'
 ti:D.L.TI KB t w 0 0
 ch:∃s tm,w.1[D.L.Ch]?=ni (.chan 0 #[] o9 s s tm)
 wg:Eh D.ty D.L.Wg w KK 0
section
variable {D:Mw} {i:Tree} {c:Ren}
def P7(n g):core (Bn n g)=Bn n (core g):=iP
def VZ{M m}(h:M<=m)(G:Bn (.up M) g=g):Bn (.up m) g=g:=by
 rw[←Vh (VY h) G,G]
def N6{B G}(h:B<=G)(K:Ph B l):Ph G l:=by
 cases l with
 |cell a=>exact aC K h
 |obj r=>exact aC K h
 |_=>exact K
def En{B G}(h:B<=G){l}(K:Ph B l)(R:CI G l):False:=by
 cases l with
 |cell a=>have:a.block<B:=K;have:G<=a.block:=R;omega
 |obj r=>have:r<B:=K;have:G<=r:=R;omega
 |_=>exact K
def MB{B}(h:q<B)(K:Gy q l):Ph B l:=by
 obtain⟨a,rfl,e⟩:=K
 show a.block<B;omega
def AG(O:D.Ok){B}(k:D.low<=B)(K:CI B l):¬D.L.5 l/\¬Gy D.L.Wg l/\l≠.obj D.L.Ch/\¬D.L.Shun l:=
 ⟨λh=>En k (O.6 l h) K,λh=>En k (MB O.3 h) K,λh=>En k (show Ph D.low l by rw[h];exact O.4) K,λh=>En k (O.5 l h) K⟩
def EJ{B}(h:B<=r)(K:M3 r l):CI B l:=by
 cases l with
 |cell a=>show B<=a.block;have:a.block=r:=K;omega
 |obj i=>show B<=i;have:i=r:=K;omega
 |_=>exact K
def Gb.at(h:Gb D Q S n g v c g' U e)(d):Gb D Q S n g (v.at d) c g' (U.at d) (e.at d):={ h with sa:=h.sa.at d,sb:=h.4.at d,same:=⟨h.same.1,h.same.2.1,h.same.2.2.1,h.same.2.2.2.at d⟩ }
def Gb.change(O:D.Ok)(a:Gb D Q S n g v c g' U e)(h:Da e d L)(N:∀b∈L,Gy D.L.Wg b.loc∨b.loc=.obj D.L.Ch):∃u j,Gb D Q S u g (v.at d.drawn) j g' (U.at d.drawn) d/\Bn u g=Bn n g/\Bn j g'=Bn c g'/\(∀i,i<iS v.1->sh u i=sh n i)/\∀i,i<iS U.1->sh j i=sh c i:=by
 obtain⟨u,y,G,W⟩:=a.sa.other (Own':=D.L.A Q) h (λb Z _ _ m=>(N b Z).elim m.2.2.1 m.2.2.2.1) λ_ _ a=>a;obtain⟨j,p,q,f⟩:=a.4.other (Own':=D.L.B Q) h (λb Z _ _ m=>(N b Z).elim m.2.2.1 m.2.2.2.1) λ_ _ a=>a;exact⟨u,j,⟨aF a.1 h.size,λl K=>N6 h.size (a.kb l K),y,p,⟨a.5.1,by rw[W _ a.5.1];exact a.5.2⟩,⟨a.cb.1,by rw[f _ a.cb.1];exact a.cb.2⟩,⟨a.7.1,by rw[W _ a.7.1];exact a.7.2⟩,⟨a.8.1,by rw[f _ a.8.1];exact a.8.2⟩,a.9,⟨a.same.1,λi V=>by rw[W i (aC V a.same.1)];exact a.same.2.1 i V,λi V=>by rw[f i (aC V a.9)];exact a.same.2.2.1 i V,a.same.2.2.2.trans (SU O.1 h N)⟩,
  λi k V o P H=>by rw[W i V,f k P];exact a.11 i k V o P H,λk o P=>by rw[f k P];exact a.new k o P⟩,G,q,W,f⟩
theorem Gh.meet(O:D.Ok){m:iB}(o:Gh D Q (m :: Z) S .leaf .leaf n g v c g' U e t){d:Bool}(M:e.heap[D.L.Ch]? = ni (.chan 0 #[] o9 s s d)){i:Nat}{h:w8}(I:D.AtSend i m h g')(y:D.N0<=i/\¬S i)(P:U.heap[i]? = ni (D.msgO m))(ab:EV D.P o9 D.JB (ScB D Z λj=>S j∨j=i) (jy (core g') uw) (Bb (· = i) U)){a f k b:MemOp}(h1:a.g=D.L.k/\a.act=.send D.L.Ch s)(J:f.g=0/\f.act=.recv D.L.Ch s 0)(ad:k.g=D.L.k/\k.act=.sendDone D.L.Ch s)(h4:b.g=0/\b.act=.recvDone D.L.Ch s) :
  ∃L E F z G u2 R T ae,Gh D L Z (λj=>S j∨j=i) E F z G u2 R T ae (e.setChan D.L.Ch 0 #[] o9 (s+1) (s+1) d) (t++#[a,f,k,b]) /\
   jy (core (Bn n g)) (my #[D.msgV (sh c i) m,vp tu])=Bn z G/\jy (core (Bn c g')) uw=Bn R T:=by
 have X:i<U.heap.size:=(aH.1 P).1;have Y:=N7 M;have af:∀j,j≠D.L.Ch->(e.setChan D.L.Ch 0 #[] o9 (s+1) (s+1) d).heap[j]? = e.heap[j]?:=λj p=>Wy p;have aq:(e.setChan D.L.Ch 0 #[] o9 (s+1) (s+1) d).heap[D.L.Ch]? = ni (.chan 0 #[] o9 (s+1) (s+1) d):=NT Y;have C:(e.setChan D.L.Ch 0 #[] o9 (s+1) (s+1) d).heap.size=e.heap.size:=by simp[World.setChan]
 have fr:Da e (e.setChan D.L.Ch 0 #[] o9 (s+1) (s+1) d) #[⟨.obj D.L.Ch,tu,tu⟩]:=Lh e M (λ_ _ _ r=>by cases r) (.chan 0 #[] o9 (s+1) (s+1) d) (λ_ _ _ r=>by cases r) tu rfl;obtain⟨nA,nB,q,eA,eB,ah,ai⟩:=o.toGb.change O fr λr he=>by simp at he;subst he;exact n9 rfl
 generalize hW:e.setChan D.L.Ch 0 #[] o9 (s+1) (s+1) d=W at *;have dA:W.drawn=v.drawn:=by rw[←hW];exact o.sa.drawn
 have dB:W.drawn=U.drawn:=by rw[←hW];exact o.sb.drawn
 have q:Gb D Q S nA g v nB g' U W:=by have:=q;rwa[show v.at W.drawn=v by rw[dA];rfl,show U.at W.drawn=U by rw[dB];rfl]at this
 have a1:=q.sb;obtain⟨o',hr,au⟩:=(a1.sm 0).like i _ P;have ak:o'=D.msgO m∨∃B r fz,D.msgO m=jf #[] r fz/\o'=jf B r fz:=by
  rcases au with rfl|⟨ay,B,r,fz,N,H,V,x4⟩|⟨_,x,_⟩|⟨B,r,fz,N,H⟩
  ·left
   show Obj.cells (m.map (A1 nB)) _ _=_;rw[I.ints.2 nB];rfl
  ·left
   unfold Mw.msgO at N;injection N with y1 y2 y3;subst y1 y2 y3;rw[H];unfold Mw.msgO
   congr 1
   refine bV λj=>?_;rw[x4 j λp=>by have:=O.jb _ _ p;have:=y.1;omega,←aN,I.ints.2 nB]
  ·exact absurd rfl (x _ _ _)
  ·exact n9 ⟨B,r,fz,N,H⟩
 let L:Loc->Prop:=λl=>Q l/\¬M3 (sh nB i) l
 obtain⟨⟨za,az⟩,al⟩:=o.fa.2 v.drawn;have ar:Bn (.up (v.heap.size+1)) (jy (core g) (my #[D.msgV v.heap.size m,vp tu]))=jy (core g) (my #[D.msgV v.heap.size m,vp tu]):=by
  have e0:Bn (.up (v.heap.size+1)) (core g)=core g:=by
   rw[←P7,VZ (cQ _) o.sa.wf.gor]
  have e1:A1 (.up (v.heap.size+1)) (my #[D.msgV v.heap.size m,vp tu])=my #[D.msgV v.heap.size m,vp tu]:=by
   simp[A1,O.msg,Ix (gL v.heap.size)]
  rw[←BK,e0,e1]
 obtain⟨z,am,er,A⟩:=q.sa.give (Own':=D.L.A L) hr ak (λj p=>q.disj j i p y.1 X y.2) (λa6=>by show Obj.cells (m.map (A1 a6)) _ _=_;rw[I.ints.2 a6];rfl) ar (λl K=>⟨λx=>K.1 x.1,K.2⟩) λl K=>⟨λx=>x.2 K,AG O (aB _) (EJ (q.new i y.1 X) K)⟩
 have as:Bn (.up U.heap.size) (jy (core g') uw)=jy (core g') uw:=by
  rw[←Vo,←P7,o.sb.wf.gor]
 obtain⟨E,ao⟩:=al (Tw (v:=v) o.fa.1 trivial);obtain⟨F,ap⟩:=ab λj b5 u=>by
  rw[Bu]at u;cases p:U.heap[j]? with
  | none=>rw[p]at u;cases u
  | some a7=>
   have a8:=o.fb.1 j a7 p;rw[p,aI]at u;obtain rfl:=aA u;split
   ·cases a7 <;> first|exact a8|exact trivial
   ·exact a8
 refine⟨L,E,F,z,_,_,nB,_,_,⟨⟨q.lowW,λl K=>q.kb l K.1,am,(a1.hide (Bs:=(· = i)) (g':=jy (core g') uw) (Own':=D.L.B L) (λj p=>by subst p;exact⟨_,_,_,P⟩) as λl K an=>⟨⟨K.1,an i rfl⟩,K.2⟩),⟨by simp;have:=o.ca.1;omega,by rw[A _ o.ca.1];exact q.ca.2⟩,⟨by rw[Ik];exact o.cb.1,q.cb.2⟩,⟨by simp;have:=o.ga.1;omega,by rw[A _ o.ga.1];exact q.ga.2⟩,⟨by rw[Ik];exact o.gb.1,q.gb.2⟩,by rw[Ik];exact o.hN,⟨by simp;have:=o.same.1;omega,λj p=>by rw[A j (aC p o.same.1)];exact q.same.2.1 j p,q.same.2.2⟩,λw av ha hc aj hS=>?_,λj p aw=>q.new j p (by rwa[Ik]at aw)⟩,ao,ap,(Ail O.lot.hk o.ti h1 J ad h4 (by rw[C];exact aB _) (by rw[C];exact Y)),⟨s+1,d,aq⟩,?_⟩,?_,?_⟩
 ·rw[Ik]at aj;have b6:w<v.heap.size+1:=by simpa using ha
  rcases Nat.lt_or_ge w v.heap.size with x|x
  ·rw[A w x];exact q.disj w av x hc aj λax=>hS (p8 ax)
  ·obtain rfl:w=v.heap.size:=Aa;rw[er];exact λr=>hS (n9 (Gx r).symm)
 ·have r:W.heap[D.L.Wg]? = e.heap[D.L.Wg]?:=af _ O.neq;have aa:=o.wg;unfold Eh at aa⊢;exact r.trans aa
 ·rw[←BK]
  congr 1
  ·rw[P7,←Vh (g:=core g) (UD (M:=v.heap.size) λj p=>((ah j p).symm.trans (A j p).symm)) (by rw[←P7,o.sa.wf.gor])]
  ·simp[A1,O.msg,er];rw[ai i X]
 ·rw[←Vo,←P7,eB]
end
def Mv.DRo(C:Mv)(w w':qg)(es:Array Event):Prop:=w'=w/\∀e∈es,∃a,e=⟨.cell a,o9,o9⟩/\C.5 (.cell a)/\a.block<iS w.1
def Oq{b B e}(h:KJ b c B e)(W:e.write=tu):(b e.loc/\Ph B e.loc)∨∃m,e.loc=.mark m:=by
 have ⟨l,wr,Y⟩:=e;cases l with
 |cell a=>exact p8 h
 |obj r=>
  rcases h.1 with C|⟨_,J,_⟩
  ·exact p8 ⟨C,h.2⟩
  grind
 |mark m=>exact n9 ⟨m,iP⟩
 |_=>exact h.elim
def Ace{d b B e}(h:KJ d c B e)(j:∀r,c r->b r):KJ d b B e:=by
 have ⟨l,wr,Y⟩:=e;cases l with
 |cell a=>exact h
 |obj r=>exact⟨h.1.imp id λx=>⟨j _ x.1,x.2⟩,h.2⟩
 |mark m=>exact h
 |_=>exact h.elim
def Acf{b a B e}(h:KJ b c B e)(H:∀l,b l->Ph B l->a l):KJ a c B e:=by
 have ⟨d,wr,Y⟩:=e;cases d with
 |cell f=>exact⟨H _ h.1 h.2,h.2⟩
 |obj r=>exact⟨h.1.imp (λx=>H _ x h.2) id,h.2⟩
 |mark m=>exact h
 |_=>exact h.elim
def XV(f:Da e d X){c:iB}{a b}(h:e.1[r]?=ni (jf c a b))(z:∀x∈X,x.write=tu->∀j,x.loc≠.cell (iK r j)):d.1[r]?=ni (jf c a b):=by
 have ⟨B,C,J⟩:=f.row _ _ _ _ h;rw[C]
 congr 2
 refine bV λj=>?_;rw[←Cg C j,←Cg h j];exact f.cell (iK r j) (aH.1 h).1 λx Z W=>z x Z W j
section
variable {D:Mw} {i:Tree} {c:Ren}
def stays(O:D.Ok){b c B}(g:Da e d L)(N:∀f∈L,KJ b c B f)(H:∀l,b l->¬D.L.5 l/\¬Gy D.L.Wg l/\l≠.obj D.L.Ch/\¬D.L.Shun l):D.L.RoR e d/\(∀{i sm},Eh D.ty D.L.Wg e i sm->Eh D.ty D.L.Wg d i sm)/\∀{o},e.1[D.L.Ch]?=ni o->Ci o->d.1[D.L.Ch]?=ni o:=by
 refine⟨⟨g.size,λj k K=>g.cell j K λf Z W K=>?_,g.row,λr o Y h M=>g.obj r o h M λf Z W K=>?_⟩,λ{i sm} G=>?_,λ{o} h M=>g.obj _ _ h M λf Z W K=>?_⟩
 ·rcases Oq (N f Z) W with⟨a,_⟩|⟨m,a⟩
  ·grind
  grind
 ·rcases Oq (N f Z) W with⟨a,_⟩|⟨m,a⟩
  ·grind
  grind
 ·unfold Eh at G⊢;unfold JU at G⊢;refine XV g G λf Z W n K=>?_;rcases Oq (N f Z) W with⟨a,_⟩|⟨m,a⟩
  ·rw[K]at a;exact(H _ a).2.1 ⟨_,iP,iP⟩
  grind
 ·rcases Oq (N f Z) W with⟨a,_⟩|⟨m,a⟩
  ·rw[K]at a;exact(H _ a).2.2.1 iP
  ·rw[K]at a;cases a
def Gb.stepA(O:D.Ok)(b:Gb D Q S n h v c R U e){o G}(E:Hk D.P tu D.JA h v o G):∃d X k,stepG D.P tu (Bn n h) e=.go (Bn n o) d X/\Gb D Q S n o G k R (U.at d.drawn) d/\Bn k R=Bn c R/\D.L.RoR e d/\(∀{i sm},Eh D.ty D.L.Wg e i sm->Eh D.ty D.L.Wg d i sm)/\(∀{o},e.1[D.L.Ch]?=ni o->Ci o->d.1[D.L.Ch]?=ni o)/\(∀{t} {a} (fn y),D.L.TI Q t e 0 a->D.L.TI Q (t++MemOp.ofEvents 0 fn y X) d 0 a)/\∃L:Array Event,(∀g∈L,KJ (D.L.A Q) (· = D.L.Ch) d.1.size g)/\∀g∈X,g∈L:=by
 obtain⟨d,X,L,C,J,T,q,z⟩:=b.sa.step E (Own':=D.L.A Q) (λ_ _ b=>b) λl K=>⟨λs=>En (aB _) (b.kb l s) K,AG O b.1 K⟩;replace q:∀g∈L,KJ (D.L.A Q) (· = D.L.Ch) d.1.size g:=λg N=>Ace (q g N) λx⟨r,Y,m⟩=>by rw[m,O.9 r Y];exact b.5.2
 obtain⟨k,w,A,f⟩:=b.4.other (Own':=D.L.B Q) T (λg N W F H=>by
  rcases Oq (q g N) W with⟨x,_⟩|⟨a7,x⟩
  ·exact x.1 H.1
  ·rwa[x]at F) λ_ _ b=>b
 obtain⟨B,I,M⟩:=stays O T q λl K=>K.2;obtain⟨e0,p,_⟩:=E.frame;refine⟨d,X,k,C,⟨aF b.1 T.size,λl K=>N6 T.size (b.kb l K),J,w,⟨aC b.5.1 p.size,b.5.2⟩,⟨b.cb.1,by rw[f _ b.cb.1];exact b.cb.2⟩,⟨aC b.7.1 p.size,b.7.2⟩,⟨b.8.1,by rw[f _ b.8.1];exact b.8.2⟩,b.9,⟨aF b.same.1 p.size,b.same.2.1,λi V=>by rw[f i (aC V b.9)];exact b.same.2.2.1 i V,b.same.2.2.2.trans B⟩,λi j V u P Z=>?_,λj u P=>by rw[f j P];exact b.new j u P⟩,A,B,I,M,λ_ _ a1=>Afs O.1 a1 T.size (λg N=>q g (z g N)) _ _,L,q,z⟩;rw[f j P];by_cases a6:i<iS v.1
 ·exact b.11 i j a6 u P Z
 ·have:=(b.sa.sm 0).out i Aa;have:=(b.4.sm 0).lt j P;omega
def Gh.stepA(O:D.Ok){f:Nat->Tree}(a:Gh D Q Z S (.node f) i n h v c R U e t)(u y):∃d X o G b,stepG D.P tu (Bn n h) e=.go (Bn n o) d X/\Gh D Q Z S (f v.drawn) i n o G b R (U.at d.drawn) d (t++MemOp.ofEvents 0 u y X)/\Bn b R=Bn c R/\D.L.RoR e d:=by
 obtain⟨m,A,I⟩:=a.2;obtain⟨o,G,E,F⟩:=I v.drawn;obtain⟨d,X,b,C,J,g,B,j,V,T,_⟩:=a.1.stepA O E;obtain⟨s,k,M⟩:=a.ch;exact⟨d,X,o,G,b,C,⟨J,F,a.3.at _,T _ _ a.ti,⟨s,k,V M λ_ _ _ l=>by cases l⟩,j a.wg⟩,g,B⟩
theorem Gh.stepB(O:D.Ok){f:Nat->Tree}(a:Gh D Q Z S E (.node f) n h v c R U e t)(I:pz)(M:String) :
  ∃d X L o G b,stepG D.P o9 (Bn c R) e=.go (Bn c o) d X/\Gh D L Z S E (f U.drawn) b h (v.at d.drawn) c o G d (t++MemOp.ofEvents D.L.k I M X)/\Bn b h=Bn n h/\D.L.RoR e d:=by
 obtain⟨hp,aj,P⟩:=a.fb;obtain⟨o,G,k,a1⟩:=P U.drawn;have k:Hk D.P o9 D.JB R U o G:=k;obtain⟨d,X,y,C,J,T,q,a6⟩:=a.sb.step k (Own':=D.L.B λl=>Q l∨CI e.heap.size l) (λ_ _ a=>⟨p8 a.1,a.2⟩) λl K=>⟨n9 K,AG O a.lowW K⟩;replace q:∀g∈y,KJ (D.L.B λl=>Q l∨CI e.heap.size l) (· = D.L.Ch) d.heap.size g:=λg N=>Ace (q g N) λx⟨r,Y,m⟩=>by rw[m,O.jbO r Y];exact a.cb.2
 let L:Loc->Prop:=λl=>Q l∨(CI e.heap.size l/\Ph d.heap.size l)
 have z:∀g∈y,KJ (D.L.B L) (· = D.L.Ch) d.heap.size g:=λg N=>Acf (q g N) λl K p=>⟨K.1.imp id λx=>⟨x,p⟩,K.2⟩;have a7:Dq D.P c D.JB (D.L.B L) o G d:=⟨J.sm,J.fix,J.glob,J.wf,λl K A=>by
  have:=J.own l K A;exact⟨this.1.imp id λx=>⟨x,Nj (J.sm 0) K⟩,this.2⟩⟩
 obtain⟨b,hA,eA,W⟩:=a.sa.other (Own':=D.L.A L) T (λg N p F B=>by
  rcases Oq (q g N) p with⟨x,_⟩|⟨ak,x⟩
  ·exact x.1.elim B.1 λa8=>En (aB _) F a8
  ·rwa[x]at F) λl K B=>⟨λx=>x.elim B.1 λx=>En (aB _) K x.1,B.2⟩
 obtain⟨H,aa,s3⟩:=stays O T z λl K=>K.2;obtain⟨e0,u,_⟩:=k.frame;obtain⟨s,ab,ad⟩:=a.ch;have ae:∀l:Loc,l.low e.heap.size->(Q l↔L l):=λl K=>⟨p8,λx=>x.elim id λx=>by
  cases l with
  | cell af=>exact(En (aB _) (l:=.cell af) K x.1).elim
  | obj r=>exact(En (aB _) (l:=.obj r) K x.1).elim
  | _=>exact x.1.elim⟩
 refine⟨d,X,L,o,G,b,C,⟨⟨aF a.lowW T.size,λl K=>K.elim (λK=>N6 T.size (a.kb l K)) λK=>K.2,hA,a7,⟨a.ca.1,by rw[W _ a.ca.1];exact a.ca.2⟩,⟨aC a.cb.1 u.size,a.cb.2⟩,⟨a.ga.1,by rw[W _ a.ga.1];exact a.ga.2⟩,⟨aC a.gb.1 u.size,a.gb.2⟩,aF a.hN u.size,⟨a.same.1,λi V=>by rw[W i (aC V a.same.1)];exact a.same.2.1 i V,a.same.2.2.1,a.same.2.2.2.trans H⟩,λi j V A ah ai=>?_,λj A ah=>?_⟩,a.fa.at _,a1,Aft O.lot a.ti T.size ae (λg N=>z g (a6 g N)) _ _,⟨s,ab,s3 ad λ_ _ _ g=>by cases g⟩,aa a.wg⟩,eA,H⟩
 ·have V:i<v.heap.size:=V;rw[W i V];by_cases w:j<U.heap.size
  ·exact a.disj i j V A w ai
  ·have:=(a.sb.sm 0).out j Aa;have:=(a.sa.sm 0).lt i V;omega
 ·by_cases w:j<U.heap.size
  ·exact a.new j A w
  ·have:=(a.sb.sm 0).out j Aa;have:=a.lowW;omega
end
abbrev MuP:=Nat×(Tree×(Tree×(Nat×Nat)))
abbrev Si:MuP->MuP->Prop:=Prod.Lex (· < ·) (Prod.Lex Tree.Sub (Prod.Lex Tree.Sub WH))
def Ade:WellFounded Si:=(Prod.lex ⟨_,Nat.lt_wfRel.wf⟩ (Prod.lex ⟨_,Tree.wf⟩ (Prod.lex ⟨_,Tree.wf⟩ ⟨_,Ahm⟩))).wf
def YL(k:Nat)(TA TB:Tree)(r:Nat):MuP:=(k+2,TA,TB,(0,r))
def UZ{j D}(h:r<D):Si (YL k E j r) (YL k E j D):=.right _ (.right _ (.right _ (.right _ h)))
def Adi{x j D}(h:Si x (YL k E j r))(Y:r<=D):Si x (YL k E j D):=by
 cases h with
 |left _ _ h=>exact .left _ _ h
 |right _ h=>
  refine .right _ ?_
  grind
section
variable (D:Mw)
def Sy(T:Tree)(ra:Nat)(n:Ren)(g a:o5)(w:qg):Prop:=
 (ra=1/\a=Bn n g)∨(ra=0/\T=.leaf/\∃z,a=parked (core (Bn n g)) #[rcase D.L.Ch z] (.recv tu))∨∃m,ra=m+2/\gi D.P tu D.L.RoR D.L.DRo (λx _=>x=Bn n g/\g.status=.running) m a w
def Ya(ms:List (Array w8))(T:Tree)(rb:Nat)(n:Ren)(g b:o5)(w:qg):Prop:=
 (rb=1/\b=Bn n g)∨(rb=0/\T=.leaf/\ms≠[]/\∃x z,b=parked (core (Bn n g)) #[scase D.L.Ch x z] .send/\∃w,stepG D.P o9 (Bn n g) w=.comm (core (Bn n g)) #[scase D.L.Ch x z] tu .send w #[])∨∃m,rb=m+2/\gi D.P o9 D.L.RoR D.L.DRo (λx _=>x=Bn n g/\g.status=.running) m b w
def Open(ms:List (Array w8))(TA TB:Tree)(ra rb:Nat)(a b:o5)(w:qg)(t:ql):Prop:=
 ∃KB S n g v n' g' v',Gh D KB ms S TA TB n g v n' g' v' w t/\Sy D TA ra n g a w/\Ya D ms TB rb n' g' b w/\¬(ra=0/\rb=0)
end
section
variable {D:Mw} {i:Tree} {c:Ren}
def Gh.runA(a:Gh D Q Z S E i n h v c R U w t):h.status=.running:=by
 cases E with
 |node f=>exact a.2.2.1
 |leaf=>
  have:=a.2.2 v.drawn;cases Z with
  |nil=>have ⟨⟨z,N⟩,_⟩:=this;exact N.run
  |cons m Z=>have ⟨⟨z,N⟩,_⟩:=this;exact N.run
def Gh.runB(a:Gh D Q Z S E i n h v c R U w t):R.status=.running:=by
 cases i with
 |node f=>exact a.3.2.1
 |leaf=>
  have:=a.3.2 U.drawn;cases Z with
  |nil=>exact this.1
  |cons m Z=>have ⟨b,z,N,_⟩:=this;exact N.run
def Gh.atA(a:Gh D Q Z S .leaf i n h v c R U w t):∃z,D.AtRecv z h:=by
 have:=a.2.2 v.drawn;cases Z with
 |nil=>exact this.1
 |cons m Z=>exact this.1
def Sy.status(Y:h.status=.running)(c:Sy D T I n h a w):(a.status=.running/\I≠0)∨(a.status=.blocked/\I=0):=by
 rcases c with⟨rfl,rfl⟩|⟨rfl,_,z,rfl⟩|⟨m,rfl,G⟩
 ·exact p8 ⟨Y,Aa⟩
 ·exact n9 ⟨iP,iP⟩
 ·exact B7m
def Ya.status(Y:h.status=.running)(c:Ya D Z T rb n h b w):(b.status=.running/\rb≠0)∨(b.status=.blocked/\rb=0):=by
 rcases c with⟨rfl,rfl⟩|⟨rfl,_,_,x,z,rfl,_⟩|⟨m,rfl,G⟩
 ·exact p8 ⟨Y,Aa⟩
 ·exact n9 ⟨iP,iP⟩
 ·exact B7m
def Sy.woken(Y:h.status=.running)(c:Sy D T I n h a w){P b}(M:d.1[D.L.Ch]?=ni (.chan 0 #[] o9 s r b))(x e):woken P x e d a=a:=by
 rcases c with⟨rfl,rfl⟩|⟨rfl,_,z,rfl⟩|c
 ·exact El (p8 Y)
 ·exact woken_recv_open _ _ M
 ·rcases Sy.status Y (n9 (n9 c):Sy D T I n h a w) with⟨C,_⟩|⟨_,C⟩
  ·exact El (p8 C)
  omega
def Ya.woken(Y:h.status=.running)(c:Ya D Z T rb n h b w){P a}(M:d.1[D.L.Ch]?=ni (.chan 0 #[] o9 s r a))(x e):woken P x e d b=b:=by
 rcases c with⟨rfl,rfl⟩|⟨rfl,_,_,y,z,rfl,_⟩|c
 ·exact El (p8 Y)
 ·exact woken_send_open _ _ M
 ·rcases Ya.status Y (n9 (n9 c):Ya D Z T rb n h b w) with⟨C,_⟩|⟨_,C⟩
  ·exact El (p8 C)
  omega
def Sy.keep(c:Sy D T I n h a w)(e:Bn u h=Bn n h)(Y:D.L.RoR w d):Sy D T I u h a d:=by
 unfold Sy;exact Nwo
def Ya.keep(c:Ya D Z T rb n h b w)(e:Bn u h=Bn n h)(Y:D.L.RoR w d):Ya D Z T rb u h b d:=by
 unfold Ya;exact Nwo
def Gh.at(a:Gh D Q Z S E i n h v c R U w t)(d):Gh D Q Z S E i n h (v.at d) c R (U.at d) (w.at d) t:=
 ⟨a.1.at d,a.2.at d,a.3.at d,JR a.ti (aB _) λ_ _=>Iff.rfl,a.ch,a.wg⟩
def Gh.ti'(b:Gh D Q Z S E i n h v c R U w t){a}(d:D.L.TI Q a w 0 0):={ b with ti:=d }
def Open.at(e:Open D Z E i I rb a b w t)(d):Open D Z E i I rb a b (w.at d) t:=by
 have ⟨Q,S,n,h,v,c,R,U,p,B,Y,nb⟩:=e;exact⟨Q,S,n,h,_,c,R,_,p.at d,B.keep iP ((Mv.RoR.refl _).at d),Y.keep iP ((Mv.RoR.refl _).at d),nb⟩
def Ac6{a x l cs d c J s W}{w2 H:qg}{G}(h:stepG P a x w=.comm b cs c s H X)(f:stepG P a x w=.comm l d J W e G):cs=d:=by
 grind
theorem Gh.meets(O:D.Ok)(e:Gh D Q Z S .leaf .leaf n h v c R U w t)(g:Z≠[]){b:w8}{r:qg}(V:stepG D.P o9 (Bn c R) r=.comm (core (Bn c R)) #[scase D.L.Ch x b] tu .send r #[]){d:Bool}(M:w.heap[D.L.Ch]? = ni (.chan 0 #[] o9 s s d)){m1 m2 m3 m4:MemOp}(C:m1.g=D.L.k/\m1.act=.send D.L.Ch s)(J:m2.g=0/\m2.act=.recv D.L.Ch s 0)(A:m3.g=D.L.k/\m3.act=.sendDone D.L.Ch s)(q:m4.g=0/\m4.act=.recvDone D.L.Ch s) :
  ∃y l T,y.length<Z.length/\Open D y l T 1 1 (jy (core (Bn n h)) (my #[x,vp tu])) (jy (core (Bn c R)) uw) (w.setChan D.L.Ch 0 #[] o9 (s+1) (s+1) d) (t++#[m1,m2,m3,m4]):=by
 cases Z with
 | nil=>exact absurd rfl g
 | cons m Z=>
  have ⟨i,G,I,K,P,F⟩:=e.fb.2 U.drawn;have f:=Ac6 (w2:=r) V (I.comm c r e.sb.fix);have Y:x=D.msgV (sh c i) m:=by
   simp only[scase,gA,dG,CommCase.mk.injEq,aW]at f;exact f.1.2.1
  have ⟨L,W,j,u,o,B,a,k,E,p,H,z⟩:=e.meet O M I K P F C J A q;exact⟨Z,W,j,gL _,L,_,u,o,B,a,k,E,p,p8 ⟨rfl,by rwa[Y]⟩,p8 ⟨rfl,z⟩,Aa⟩
end
def StepA.mono{K F:o5->o5->qg->ql->Prop}(h:StepA P k a b e t K)(p:∀a b e t,K a b e t->F a b e t):StepA P k a b e t F:=by
 rcases h with⟨l,B,X,C,J⟩|⟨D,c,z,X,s,r,d,C,J,T,q⟩|⟨D,c,z,X,s,r,d,S,v,f,C,J,T,q⟩|⟨D,c,z,X,s,r,d,C,J,T,q⟩
 ·exact p8 ⟨l,B,X,C,p _ _ _ _ J⟩
 ·exact n9 (p8 ⟨D,c,z,X,s,r,d,C,J,T,p _ _ _ _ q⟩)
 ·exact n9 (n9 (p8 ⟨D,c,z,X,s,r,d,S,v,f,C,J,T,p _ _ _ _ q⟩))
 ·exact n9 (n9 (n9 ⟨D,c,z,X,s,r,d,C,J,T,p _ _ _ _ q⟩))
def StepB.mono{K F:o5->o5->qg->ql->Prop}(h:StepB P k a b e t K)(p:∀a b e t,K a b e t->F a b e t):StepB P k a b e t F:=by
 rcases h with⟨l,B,X,C,J⟩|⟨D,c,v,z,X,s,r,d,C,J,T,q⟩|⟨D,c,v,z,X,s,r,d,S,f,C,J,T,q⟩
 ·exact p8 ⟨l,B,X,C,p _ _ _ _ J⟩
 ·exact n9 (p8 ⟨D,c,v,z,X,s,r,d,C,J,T,p _ _ _ _ q⟩)
 ·exact n9 (n9 ⟨D,c,v,z,X,s,r,d,S,f,C,J,T,p _ _ _ _ q⟩)
section
variable {D:Mw} {i:Tree} {c:Ren}
def KP(D:Mw)(μ:MuP)(a b:o5)(e:qg)(t:ql):Prop:=∃Z E i I j,Si (YL (iR Z) E i (I+j)) μ/\Open D Z E i I j a b e t
theorem Gh.stepA1(O:D.Ok)(h:Gh D Q Z S E i n g v c R U e t)(Y:Ya D Z i j c R b e):StepA D.P D.L.k (Bn n g) b e t (KP D (YL Z.length E i (1+j))):=by
 obtain⟨s,k,M⟩:=h.ch;cases E with
 | node m=>
  obtain⟨d,X,o,G,a,C,J,B,q⟩:=h.stepA O _ _;obtain⟨W,K,p⟩:=J.ch;refine p8 ⟨_,d,X,C,Z,m v.drawn,i,1,j,.right _ (.left _ _ ⟨_,rfl⟩),Q,S,n,o,G,a,R,_,J,p8 ⟨rfl,rfl⟩,?_,Aa⟩;rw[Y.woken h.runB p];exact Y.keep B q
 | leaf=>
  obtain⟨z,N⟩:=h.atA;have f:=N.comm n e h.sa.fix;rw[h.ca.2]at f;rcases Y.status h.runB with⟨A,u⟩|⟨A,u⟩
  ·refine n9 (p8 ⟨_,D.L.Ch,z,#[],s,s,k,f,M,by rw[A];simp,Z,.leaf,i,0,j,UZ Aa,Q,S,n,g,v,c,R,U,?_,n9 (p8 ⟨rfl,rfl,z,rfl⟩),Y,Aa⟩);exact h
  ·rcases Y with⟨w,_⟩|⟨_,rfl,x,F,I,rfl,P,V⟩|⟨a1,w,_⟩
   ·omega
   ·refine n9 (n9 (p8 ⟨_,D.L.Ch,z,#[],s,s,k,core _,F,I,f,M,rfl,?_⟩));have a6:∀l:ql,MemOp.ofEvents 0 (Bn n g).frame.fn (Bn n g).frame.place #[]++l=l:=λl=>by simp[MemOp.ofEvents]
    obtain⟨y,r,T,L,H⟩:=h.meets O x V M (m1:={ g:=D.L.k,fn:=(core (Bn c R)).frame.fn,pos:=(core (Bn c R)).frame.place,act:=.send D.L.Ch s }) (m2:={ g:=0,fn:=(core (Bn n g)).frame.fn,pos:=(core (Bn n g)).frame.place,act:=.recv D.L.Ch s 0 }) (m3:={ g:=D.L.k,fn:=(core (Bn c R)).frame.fn,pos:=(core (Bn c R)).frame.place,act:=.sendDone D.L.Ch s }) (m4:={ g:=0,fn:=(core (Bn n g)).frame.fn,pos:=(core (Bn n g)).frame.place,act:=.recvDone D.L.Ch s }) ⟨rfl,rfl⟩ ⟨rfl,rfl⟩ ⟨rfl,rfl⟩ ⟨rfl,rfl⟩;exact⟨y,r,T,1,1,.left _ _ Aa,H⟩
   ·omega
def Open.stepA(O:D.Ok)(m:Open D Z E i I j a b e t)(d:a.status=.running):StepA D.P D.L.k a b e t (KP D (YL (iR Z) E i (I+j))):=by
 have ⟨Q,S,n,g,v,c,R,U,p,B,Y,o⟩:=m;rcases B with⟨rfl,rfl⟩|⟨_,_,z,rfl⟩|⟨w,rfl,G⟩
 ·exact p.stepA1 O Y
 ·cases d
 ·rcases G.cases with C|⟨q,rfl,f⟩
  ·obtain⟨rfl,_⟩:=C e (Mv.RoR.refl e);exact(p.stepA1 O Y).mono λa b e t⟨y,l,T,N,k,r,H⟩=>⟨y,l,T,N,k,Adi r Aa,H⟩
  ·obtain⟨J,u,X,V,⟨rfl,L⟩,h⟩:=f e (Mv.RoR.refl e);have ⟨s,x,M⟩:=p.ch;refine p8 ⟨J,u,X,V,Z,E,i,q+2,j,UZ Aa,Q,S,n,g,v,c,R,U,p.ti' (Afr O.1 p.ti L _ _).1,n9 (n9 ⟨q,iP,h⟩),?_,Aa⟩
   rwa[Y.woken p.runB M]
theorem Gh.stepB1(O:D.Ok){K:o5->o5->qg->ql->Prop}(h:Gh D Q Z S E i n g v c R U e t)(B:Sy D E I n g a e)(j:Z = []->i=.leaf->StepB D.P D.L.k a (Bn c R) e t K)(p:∀a b e t,KP D (YL Z.length E i (I+1)) a b e t->K a b e t):StepB D.P D.L.k a (Bn c R) e t K:=by
 obtain⟨s,A,M⟩:=h.ch;cases i with
 | node m=>
  obtain⟨d,X,o,q,G,P,C,J,u,N⟩:=h.stepB O _ _;obtain⟨s',a1,w⟩:=J.ch;refine p8 ⟨_,d,X,C,p _ _ _ _ ⟨Z,E,m U.drawn,I,1,.right _ (.right _ (.left _ _ ⟨_,rfl⟩)),o,S,P,g,_,c,q,G,J,?_,p8 ⟨rfl,rfl⟩,Aa⟩⟩;rw[B.woken h.runA w];exact B.keep u N
 | leaf=>
  cases Z with
  | nil=>exact j rfl rfl
  | cons x Z=>
   obtain⟨a6,z,F,_⟩:=h.fb.2 U.drawn;have k:=F.comm c e h.sb.fix;rw[h.cb.2]at k;rcases B.status h.runA with⟨f,W⟩|⟨f,W⟩
   ·refine n9 (p8 ⟨_,D.L.Ch,_,z,#[],s,s,A,k,M,by rw[f];simp,p _ _ _ _ ⟨x :: Z,E,.leaf,I,0,UZ Aa,Q,S,n,g,v,c,R,U,?_,B,n9 (p8 ⟨rfl,rfl,Ad,_,z,rfl,e,k⟩),Aa⟩⟩);exact h
   ·rcases B with⟨Y,_⟩|⟨_,rfl,V,rfl⟩|⟨a7,Y,_⟩
    ·omega
    ·refine n9 (n9 ⟨_,D.L.Ch,_,z,#[],s,s,A,core _,V,k,M,rfl,p _ _ _ _ ?_⟩);have a8:∀l:ql,MemOp.ofEvents D.L.k (Bn c R).frame.fn (Bn c R).frame.place #[]++l=l:=λl=>by simp[MemOp.ofEvents]
     obtain⟨y,r,T,L,H⟩:=h.meets O Ad k M (m1:={ g:=D.L.k,fn:=(core (Bn c R)).frame.fn,pos:=(core (Bn c R)).frame.place,act:=.send D.L.Ch s }) (m2:={ g:=0,fn:=(core (Bn n g)).frame.fn,pos:=(core (Bn n g)).frame.place,act:=.recv D.L.Ch s 0 }) (m3:={ g:=D.L.k,fn:=(core (Bn c R)).frame.fn,pos:=(core (Bn c R)).frame.place,act:=.sendDone D.L.Ch s }) (m4:={ g:=0,fn:=(core (Bn n g)).frame.fn,pos:=(core (Bn n g)).frame.place,act:=.recvDone D.L.Ch s }) ⟨rfl,rfl⟩ ⟨rfl,rfl⟩ ⟨rfl,rfl⟩ ⟨rfl,rfl⟩;exact⟨y,r,T,1,1,.left _ _ Aa,H⟩
    ·omega
def Open.stepB(O:D.Ok){K:o5->o5->qg->ql->Prop}(m:Open D Z E i I j a b e t)(d:b.status=.running)(z:∀Q S n g v c R U,Gh D Q [] S E .leaf n g v c R U e t->Sy D E I n g a e->Z = []->i=.leaf->b=Bn c R->StepB D.P D.L.k a b e t K)(Y:∀a b e t,KP D (YL (iR Z) E i (I+j)) a b e t->K a b e t):StepB D.P D.L.k a b e t K:=by
 obtain⟨Q,S,n,g,v,c,R,U,p,B,o,A⟩:=m;rcases o with⟨rfl,rfl⟩|⟨_,_,_,F,P,rfl,_⟩|⟨W,rfl,G⟩
 ·exact p.stepB1 O B (λw x=>Ai) Y
 ·cases d
 ·rcases G.cases with C|⟨q,rfl,f⟩
  ·obtain⟨rfl,_⟩:=C e (Mv.RoR.refl e);exact p.stepB1 O B (λw x=>Ai) λa b e t⟨y,l,T,N,k,r,H⟩=>Y _ _ _ _ ⟨y,l,T,N,k,Adi r Aa,H⟩
  ·obtain⟨J,u,X,V,⟨rfl,L⟩,h⟩:=f e (Mv.RoR.refl e);obtain⟨s,a1,M⟩:=p.ch;refine p8 ⟨J,u,X,V,Y _ _ _ _ ⟨Z,E,i,I,q+2,UZ Aa,Q,S,n,g,v,c,R,U,p.ti' (Afr O.1 p.ti L _ _).2,?_,n9 (n9 ⟨q,iP,h⟩),Aa⟩⟩
   rwa[B.woken p.runA M]
def Open.wake(h:Open D Z E i I j a b e t)(P x d):woken P x d e a=a/\woken P x d e b=b:=by
 have ⟨Q,S,n,g,v,c,R,U,p,B,Y,V⟩:=h;have ⟨s,f,M⟩:=p.ch;exact⟨B.woken p.runA M _ _,Y.woken p.runB M _ _⟩
def Open.awake(h:Open D Z E i I j a b e t):awake a/\awake b/\(a.status=.running∨b.status=.running):=by
 have X:∀{g},(g.status=.running∨g.status=.blocked∨g.status=.finished)->Conc.awake g:=λh t d=>by
  grind
 have ⟨Q,S,n,g,v,c,R,U,p,B,Y,V⟩:=h;rcases B.status p.runA with⟨C,_⟩|⟨C,f⟩
 ·exact⟨X (p8 C),X ((Y.status p.runB).imp (·.1) λx=>p8 x.1),p8 C⟩
 ·rcases Y.status p.runB with⟨J,_⟩|⟨J,L⟩
  ·grind
  omega
def Open.mute(O:D.Ok){d u f}(F:d≠0)(l:d≠D.L.k)(L:∀h∈X,Event.mute h=tu)(m:Open D Z E i I j a b e t):Open D Z E i I j a b e (t++MemOp.ofEvents d u f X):=by
 have ⟨Q,S,n,g,v,c,R,U,p,B,Y,V⟩:=m;refine⟨Q,S,n,g,v,c,R,U,p.ti' ?_,B,Y,V⟩;exact p.ti.appMute (O.1.parts Q) (.refl e) Ahe (Deaf_other t (dN (dN F)) _ λk T=>Ck T) (Deaf_other t l _ λk T=>Ck T) λk T=>by obtain⟨h,N,rfl⟩:=o1 T;exact low_mute (L h N) _
end
def Rk{a}{R i:qg->qg->Prop}{D c:qg->qg->Array Event->Prop}{b S:o5->qg->Prop}(e:∀w B,i w B->R w B)(m:∀w B X,D w B X->c w B X)(H:∀g w,b g w->S g w):∀{n} {g} {w},gi P a R D b n g w->gi P a i c S n g w
 |0,_,_,h=>λK U=>H _ _ (h K (e _ _ U))
 |n+1,g,w,h=>by
  rcases h with h|⟨s,h⟩
  ·exact p8 λK U=>H _ _ (h K (e _ _ U))
  ·refine n9 ⟨s,λK U=>?_⟩;have:=h K (e _ _ U);revert this;cases stepG P a g K<;>simp only[GStep.goes,imp_self];exact fun⟨d,x⟩=>⟨m _ _ _ d,Rk e m H x⟩
def Sx(P:vg)(aP a:o5)(w:qg):Prop:=aP.status=.running/\∃m,gi P tu AtRel D0 (λx _=>x=aP) m a w
def Sx.at_iff(d):Sx P b a (w.at d)↔Sx P b a w:=
 ⟨fun⟨h,m,G⟩=>⟨h,m,Goes.rely atRel_trans G ⟨w.drawn,iP⟩⟩,fun⟨h,m,G⟩=>⟨h,m,Goes.rely atRel_trans G ⟨d,iP⟩⟩⟩
def Xv{a}{b:o5->qg->Prop}{r:qg}:∀{n} {g} {w},(∃d,w=r.at d)->gi P a AtRel D0 b n g w->gi P a AtRel D0 (λR B=>b R B/\∃d,B=r.at d) n g w
 |0,_,_,⟨d,W⟩,h=>λK U=>⟨h K U,by obtain⟨M,rfl⟩:=U;exact⟨M,by rw[W];rfl⟩⟩
 |n+1,g,w,⟨d,W⟩,h=>by
  rcases h with h|⟨s,h⟩
  ·exact p8 λK U=>⟨h K U,by obtain⟨M,rfl⟩:=U;exact⟨M,by rw[W];rfl⟩⟩
  ·refine n9 ⟨s,λK U=>?_⟩;have:=h K U;revert this;cases stepG P a g K<;>simp only[GStep.goes,imp_self];rintro⟨⟨S,L⟩,x⟩;refine⟨⟨S,L⟩,Xv ?_ x⟩;obtain⟨M,rfl⟩:=U;exact⟨M,by rw[S,W];rfl⟩
section
variable (D:Mw)
abbrev Mw.RW(w w₁:qg):Prop:=RG D.ty D.L.Wg w w₁
def Mw.KA(i:Nat)(_:Obj):Prop:=i≠D.L.Wg/\i≠D.L.Ch
def Mw.c0(KB:hZ)(w0:qg)(aP:o5):KG:=
 {P:=D.P,Shun:=D.L.Shun,k:=D.L.k,Wg:=D.L.Wg,Ch:=D.L.Ch,ty:=D.ty,LA:=D.L.LA KB,LB:=D.L.LB KB,KB:=D.KA,w0,PostA:=Sx D.P aP }
def WCl(g:o5)(w:qg):Prop:=
 g.status=.running/\mayWake D.P g=tu/\∀s r tm,w.1[D.L.Ch]?=ni (.chan 0 #[] o9 s r tm) ->
  ∃g₂,stepG D.P o9 g w=.go g₂ (w.shut D.L.Ch s r tm) #[⟨.obj D.L.Ch,o9,tu⟩,⟨.obj D.L.Ch,tu,tu⟩]/\g₂.status=.running/\∃m,gi D.P o9 D.RW D0 (BR0 D.P D.ty D.L.Wg) m g₂ (w.shut D.L.Ch s r tm)
structure Vz where
 EndA:o5->qg->Prop
 EndB:(Nat->Prop)->qg->Prop
 atA:∀g v d,EndA g v->EndA g (v.at d)
 atB:∀S v d,EndB S v->EndB S (v.at d)
 finA:∀g v,D.18 g v->∃gP,EndA gP v/\(∀M,Bn (.up M) g=g->Bn (.up M) gP=gP)/\∀KB w0 n w,n.Fix D.P.globals.size->sh n D.4=D.L.Ch->sh n D.5=D.L.Wg->E3 D.ty D.L.Wg w->ARc (D.c0 KB w0 (Bn n gP)) (Bn n g) w
 finB:∀S g v,D.19 S g v->EndB S v/\∀n w,n.Fix D.P.globals.size->sh n D.6=D.L.Ch->sh n D.7=D.L.Wg->E3 D.ty D.L.Wg w->WCl D (Bn n g) w
end
section
variable {D:Mw} {r:qg}
def Mw.Ok.cfg(O:D.Ok)(Q r a):(D.c0 Q r a).Ok where
 hk:=O.1.1
 parts:=O.1.parts Q
 neq:=O.neq
 kb:=λi o b=>b.1
 postAt:=λh e d=>Sx.at_iff d
end
inductive WS|r0|k1|d1|qt
def WS.rk:WS->Nat
 |.r0=>4|.k1=>3|.d1=>2|.qt=>1
def WS.bt:WS->BT
 |.r0=>.r0|.k1=>.k1|.d1=>.d1|.qt=>.qt
def WS.df:WS->Nat
 |.d1|.qt=>1|_=>0
def WS.st:WS->Int
 |.qt=>0|_=>KK
def StW(D:Mw):WS->o5->qg->Prop
 |.r0=>BR0 D.P D.ty D.L.Wg|.k1=>BK1 D.P D.ty D.L.Wg|.d1=>BD1 D.P D.ty D.L.Wg|.qt=>λ_ _=>False
def Y8(D:Mw):WS->Nat->Nat->o5->qg->Prop
 |.qt,rb,dB,b,w=>QuitsD D.P rb dB b
 |s,rb,dB,b,w=>dB=s.df/\∃n,rb=n+1/\gi D.P o9 D.RW D0 (StW D s) n b w
section
variable {D:Mw} {r:qg} {w':qg} {s:WS}
def StW.running(a:StW D s h e):h.status=.running:=by cases s<;>first|exact a.1|exact a.elim
def Y8.rely(h:Y8 D s j f b e)(Y:D.RW e w'):Y8 D s j f b w':=by
 cases s with
 |qt=>exact h
 |_=>
  have ⟨F,n,C,J⟩:=h;exact⟨F,n,C,Goes.rely rgT J Y⟩
def Y8.status(h:Y8 D s j f b e):b.status=.running∨b.status=.finished:=by
 cases s with
 |qt=>exact QuitsD.status h
 |_=>have ⟨_,n,_,J⟩:=h;exact p8 (J.running (λ_ _ h=>StW.running h) e PH)
def Y8.b2(h:Y8 D s j f b e):Pq (D.c0 Q r a) s.bt j f b e:=by
 cases s with
 |qt=>exact n9 ⟨iP,h⟩
 |_=>exact p8 ⟨by simp[WS.bt],h⟩
end
structure Gc(D)(F:Vz D)(KB S TA n g v n' g' v' w t dB):Prop extends Gb D KB S n g v n' g' v' w where
 fa:FwT D.P tu D.JA (ScA D []) TA g v
 pb:Plain v'
 eb:F.2 S v'
 ti:D.L.TI KB t w 0 dB
 ch:∃s r tm,w.1[D.L.Ch]?=ni (.chan 0 #[] tu s r tm)
structure WI(D)(F:Vz D)(KB S w0 n gP v n' g' v'):Prop extends Gb D KB S n gP v n' g' v' w0 where
 pa:Plain v
 pb:Plain v'
 ea:F.1 gP v
 eb:F.2 S v'
 wg:E3 D.ty D.L.Wg w0
 ch:∃s r tm,w0.1[D.L.Ch]?=ni (.chan 0 #[] tu s r tm)
section
variable {D:Mw} {F:Vz D} {i:Tree} {c:Ren} {s:WS}
def Gc.change(O:D.Ok)(b:Gc D F Q S E n h v c R U e t f)(i:Da e d L)(N:∀g∈L,Gy D.L.Wg g.loc∨g.loc=.obj D.L.Ch){p}(C:D.L.TI Q p d 0 Y)(z:∃s r j,d.1[D.L.Ch]?=ni (.chan 0 #[] tu s r j)):∃u a,Gc D F Q S E u h (v.at d.drawn) a R (U.at d.drawn) d p Y/\Bn u h=Bn n h:=
 let⟨u,a,J,G,_⟩:=b.1.change O i N
 ⟨u,a,⟨J,b.2.at _,b.3,F.4 _ _ _ b.eb,C,z⟩,G⟩
def Gc.tr(b:Gc D F Q S E n h v c R U e t f){a}(C:D.L.TI Q a e 0 Y):={ b with ti:=C }
def Gc.at(a:Gc D F Q S E n h v c R U e t f)(d):Gc D F Q S E n h (v.at d) c R (U.at d) (e.at d) t f:=⟨a.1.at d,a.2.at d,a.3,F.4 _ _ _ a.eb,JR a.ti (aB _) λ_ _=>Iff.rfl,a.ch⟩
def Gc.runA(a:Gc D F Q S E n h v c R U e t f):h.status=.running:=by
 cases E with
 |node b=>exact a.2.2.1
 |leaf=>have ⟨⟨z,N⟩,_⟩:=a.2.2 v.drawn;exact N.run
def Gc.stepA(O:D.Ok){b:Nat->Tree}(g:Gc D F Q S (.node b) n h v c R U e t f)(u y):∃d X o G a,stepG D.P tu (Bn n h) e=.go (Bn n o) d X/\Gc D F Q S (b v.drawn) n o G a R (U.at d.drawn) d (t++MemOp.ofEvents 0 u y X) f/\D.L.RoR e d/\(∀{st sm},Eh D.ty D.L.Wg e st sm->Eh D.ty D.L.Wg d st sm)/\∀j∈MemOp.ofEvents 0 u y X,j.g≠D.L.k/\j.act≠.mark (.release (Hp D.L.Wg)):=by
 obtain⟨p,w,I⟩:=g.2;obtain⟨o,G,E,k⟩:=I v.drawn;obtain⟨d,X,a,C,J,_,B,l,V,T,L,q,z⟩:=g.1.stepA O E;obtain⟨s,r,m,M⟩:=g.ch;refine⟨d,X,o,G,a,C,⟨J,k,g.3,F.4 _ _ _ g.eb,T _ _ g.ti,⟨s,r,m,V M λ_ _ _ i=>by cases i⟩⟩,B,l,λj H=>?_⟩;obtain⟨i,N,rfl⟩:=o1 H;exact⟨by show 0≠D.L.k;have:=O.1.1;omega,XO (q i (z i N)) _⟩
theorem Gc.end(O:D.Ok)(d:Gc D F Q S .leaf n h v c R U e t f)(j:a=Bn n h∨∃cs q,a = { parked (core (Bn n h)) cs q with status:=.running })(k:Y8 D s rb f b e)(g:Eh D.ty D.L.Wg e s.st 0)(hrel:s≠.r0->∃r,RI D.L.k D.L.Wg t r) :
  ∃o M,WI D F Q S e n o v c R U/\J (D.c0 Q e (Bn n o)) M a b e t:=by
 have ⟨_,hF⟩:=d.fa.2 v.drawn;have ⟨o,N,l,y⟩:=F.finA _ _ hF;refine⟨o,_,⟨{ d.toGb with sa:={ d.sa with wf:=⟨d.sa.wf.mem,l _ d.sa.wf.gor⟩ } },d.fa.1,d.pb,N,d.eb,⟨_,_,g⟩,d.ch⟩,n9 ⟨.rc,s.bt,1,rb,rfl,d.ch,⟨s.st,0,by cases s <;> rfl,g⟩,⟨f,d.ti,k.b2⟩,p8 ⟨0,rfl,λK Y=>?_⟩,λ_=>Aa,I0.refl _ _,λm=>hrel λx=>m (by rw[x];rfl)⟩⟩;have i:=y Q e n K d.sa.fix d.ca.2 d.ga.2 (Y ⟨_,_,g⟩);rcases j with rfl|⟨cs,q,rfl⟩
 ·exact i
 ·exact ARc.again i
end
section
variable (D:Mw) (F:Vz D)
def Clo(TA:Tree)(s:WS)(ra rb:Nat)(a b:o5)(w:qg)(t:ql):Prop:=
 ∃KB S n g v n' g' v' dB,Gc D F KB S TA n g v n' g' v' w t dB/\Sy D TA ra n g a w/\ra≠0/\Y8 D s rb dB b w/\Eh D.ty D.L.Wg w s.st 0/\(s≠.r0->∃r,RI D.L.k D.L.Wg t r)
def Ap8(μ0:Nat×Nat)(a b:o5)(w:qg)(t:ql):Prop:=∃KB S w0 n gP v n' g' v',WI D F KB S w0 n gP v n' g' v'/\J (D.c0 KB w0 (Bn n gP)) μ0 a b w t
def Agb(a b:o5)(w:qg)(t:ql):Prop:=∃KB S w0 n gP v n' g' v',WI D F KB S w0 n gP v n' g' v'/\Fin (D.c0 KB w0 (Bn n gP)) a b w t
def ER(TA:Tree)(s:WS)(r:Nat):MuP:=(1,TA,.leaf,(s.rk,r))
def JD(μ:MuP)(a b:o5)(w:qg)(t:ql):Prop:=
 (∃μ0,μ=(0,.leaf,.leaf,μ0)/\Ap8 D F μ0 a b w t)∨(∃TA s ra rb,μ=ER TA s (ra+rb)/\Clo D F TA s ra rb a b w t)∨∃ms TA TB ra rb,μ=YL (iR ms) TA TB (ra+rb)/\Open D ms TA TB ra rb a b w t
def JDL(μ:MuP)(a b:o5)(w:qg)(t:ql):Prop:=∃μ',Si μ' μ/\JD D F μ' a b w t
end
section
variable {D:Mw} {F:Vz D} {i:Tree} {c:Ren} {s:WS}
def Clo.runA(d:Clo D F E s I j a b e t):a.status=.running:=by
 have ⟨Q,S,n,h,v,c,R,U,f,p,B,z,_⟩:=d;rcases B.status p.runA with⟨C,_⟩|⟨_,C⟩
 ·exact C
 ·exact absurd C z
def RL{s D}(h:r<D):Si (ER E s r) (ER E s D):=.right _ (.right _ (.right _ (.right _ h)))
def Adh{s W D}(h:W.rk<s.rk):Si (ER E W r) (ER E s D):=.right _ (.right _ (.right _ (.left _ _ h)))
def YH{B x y}(h:Tree.Sub T E):Si (k,T,B,x) (k,E,B,y):=.right _ (.left _ _ h)
def Clo.stepB(O:D.Ok)(a6:Clo D F E s I j a b e t)(M:b.status=.running):StepB D.P D.L.k a b e t (JDL D F (ER E s (I+j))):=by
 have w:∀i d,woken D.P b i d a=a:=λi d=>El (p8 a6.runA);obtain⟨Q,S,n,h,v,c,R,U,f,p,B,y,z,k,hrel⟩:=a6;have J:∀{s} {m},(s=.r0∨s=.k1∨s=.d1)->f=s.df->Eh D.ty D.L.Wg e s.st 0->(s≠.r0->∃u,RI D.L.k D.L.Wg t u) ->
   (∀P,D.RW e P->∃R d X,stepG D.P o9 b P=.go R d X/\D0 P d X/\gi D.P o9 D.RW D0 (StW D s) m R d)->StepB D.P D.L.k a b e t (JDL D F (ER E s (I+(m+1+1)))):=by
  intro s m ab r k hrel H;obtain⟨i,a7,X,V,hD,a8⟩:=H e PH;obtain⟨W,Y⟩:a7=e/\X=#[]:=⟨hD.1,hD.2⟩;subst W Y;refine p8 ⟨i,_,#[],V,ER E s (I+(m+1)),RL Aa,n9 (p8 ⟨E,s,I,m+1,iP,?_⟩)⟩;rw[w,IS];refine⟨Q,S,n,h,v,c,R,U,f,p,B,y,?_,k,hrel⟩;rcases ab with rfl|rfl|rfl<;>exact⟨r,m,iP,a8⟩
 have a1:∀e,(D.c0 Q e a).Ok:=λe=>O.cfg Q e a;cases s with
 |r0=>
  obtain⟨r,m,rfl,K⟩:=z;rcases K.cases with C|⟨m',rfl,H⟩
  rotate_left
  ·grind
  obtain⟨_,i,V,q,L⟩:=C e PH;refine p8 ⟨i,e,_,V,ER E .k1 (I+(q+1)),Adh Ae,n9 (p8 ⟨E,.k1,I,q+1,iP,?_⟩)⟩;rw[w];subst r;exact⟨Q,S,n,h,v,c,R,U,_,p.tr (JS (a1 e) p.ti (.refl _) (GA k) (λg N=>by simp at N;exact n9 (n9 (n9 N))) _ _),B,y,⟨iP,q,iP,L⟩,k,λ_=>⟨_,RI.new p.ti.6 _ _⟩⟩
 |k1=>
  obtain⟨r,m,rfl,K⟩:=z;rcases K.cases with C|⟨m',rfl,H⟩
  rotate_left
  ·grind
  obtain⟨_,i,V,q,L⟩:=C e PH;obtain⟨u,A⟩:=hrel Ad;refine p8 ⟨i,e,_,V,ER E .d1 (I+(q+1)),Adh Ae,n9 (p8 ⟨E,.d1,I,q+1,iP,?_⟩)⟩;rw[w];subst r;exact⟨Q,S,n,h,v,c,R,U,_,p.tr (JS (a1 e) p.ti (.refl _) (GA k) (λg N=>by simp at N;exact n9 (p8 N)) _ _),B,y,⟨iP,q,iP,L⟩,k,λ_=>⟨u,A.appOwn _ _ _ (λg N=>by simp at N;subst N;simp[Uf]) λT g N=>p8 RV⟩⟩
 |d1=>
  obtain⟨r,m,rfl,K⟩:=z;rcases K.cases with C|⟨m',rfl,H⟩
  rotate_left
  ·exact J (n9 (n9 iP)) r k hrel H
  obtain⟨_,hK,_⟩:=C e PH;obtain⟨u,A⟩:=hrel Ad;obtain⟨i,V,q,L⟩:=hK k;refine p8 ⟨i,_,_,V,ER E .qt (I+q),Adh Ae,n9 (p8 ⟨E,.qt,I,q,iP,?_⟩)⟩;rw[w];subst r;obtain⟨x,aa,ad,aj⟩:=p.ch;obtain⟨ae,n3,af,Y⟩:=p.change O (Gf e (Hp D.L.Wg) (pq .u64 0) tu) (λg N=>by simp at N;subst N;exact p8 ⟨_,iP,iP⟩) (JS (a1 e) p.ti (Zz _ _) (by rw[Qz];exact GA k) (QM _) b.frame.fn b.frame.place) ⟨x,aa,ad,by rwa[Ef _ _ (by exact dN O.neq)]⟩;refine⟨Q,S,ae,h,_,n3,R,_,_,af,B.keep Y (SU O.1 (Gf e (Hp D.L.Wg) (pq .u64 0) tu) λg N=>by simp at N;subst N;exact p8 ⟨_,iP,iP⟩),y,L,Lo k 0,λ_=>⟨u,Xa (C:=D.c0 Q e a) A p.ti.6 (n9 (n9 (p8 iP))) _ _⟩⟩
 |qt=>
  cases j with
  |zero=>rw[z.1]at M;cases M
  |succ m=>
   rcases z with⟨ah,_⟩|⟨_,i,X,o,V,ai⟩
   ·rw[ah]at M;cases M
   ·refine p8 ⟨i,e,X,V e,ER E .qt (I+m),RL Aa,n9 (p8 ⟨E,.qt,I,m,iP,?_⟩)⟩;rw[w];refine⟨Q,S,n,h,v,c,R,U,_,p.tr ?_,B,y,ai,k,λW=>?_⟩
    ·refine TI.appB (O.1.parts _) O.1.1 p.ti (.refl e) (λop G=>Ck G) (λop G x Z _=>?_) ?_ (λop G=>?_)
     ·exact X4y
     ·rw[ui];exact aK (deafBehind · X) p.ti.6
     ·obtain⟨g,N,rfl⟩:=o1 G;exact low_mute (o g N) _
    ·obtain⟨u,A⟩:=hrel W;refine⟨u,A.appOwn _ _ _ (λg N x=>?_) λT g N=>p8 (touch_mute (o g (cI N)))⟩;have:=o g N;obtain⟨l,wr,ak⟩:=g;simp only at x;subst x;simp[Event.mute]at this
def Gc.stepA1(O:D.Ok){g:Nat->Tree}(p:Gc D F Q S (.node g) n h v c R U e t f)(k:Y8 D s j f b e)(l:Eh D.ty D.L.Wg e s.st 0)(hrel:s≠.r0->∃r,RI D.L.k D.L.Wg t r)(m):StepA D.P D.L.k (Bn n h) b e t (JDL D F (ER (.node g) s m)):=by
 obtain⟨d,X,o,G,a,C,J,T,q,z⟩:=p.stepA O _ _;refine p8 ⟨_,d,X,C,ER _ s _,YH ⟨_,iP⟩,n9 (p8 ⟨g v.drawn,s,1,j,iP,Q,S,n,o,G,a,R,_,f,J,p8 ⟨iP,iP⟩,Aa,?_,q l,λu=>let⟨r,w⟩:=hrel u;⟨r,w.appOther z⟩⟩)⟩;rw[El k.status];exact k.rely fun⟨i,sm,x⟩=>⟨i,sm,q x⟩
def Clo.step(O:D.Ok)(u:Clo D F E s I j a b e t):Agb D F a b e t∨((a.status=.running->StepA D.P D.L.k a b e t (JDL D F (ER E s (I+j))))/\(b.status=.running->StepB D.P D.L.k a b e t (JDL D F (ER E s (I+j))))):=by
 have q:=u.stepB O;obtain⟨Q,S,n,h,v,c,R,U,f,p,B,z,k,l,hrel⟩:=u;have w:E=.leaf->a=Bn n h->Agb D F a b e t∨((a.status=.running->StepA D.P D.L.k a b e t (JDL D F (ER E s (I+j))))/\(b.status=.running->StepB D.P D.L.k a b e t (JDL D F (ER E s (I+j))))):=λd m=>by
  subst d;obtain⟨o,a6,g,W⟩:=p.end O (p8 m) k l hrel;rcases W.step (O.cfg Q e (Bn n o)) with y|⟨y,J⟩
  ·exact p8 ⟨Q,S,e,n,o,v,c,R,U,g,y⟩
  ·exact n9 ⟨λY=>(y Y).mono λa b _ t⟨i,K,W⟩=>⟨(0,.leaf,.leaf,i),.left _ _ Ae,p8 ⟨i,iP,Q,S,e,n,o,v,c,R,U,g,W⟩⟩,λY=>(J Y).mono λa b _ t⟨i,K,W⟩=>⟨(0,.leaf,.leaf,i),.left _ _ Ae,p8 ⟨i,iP,Q,S,e,n,o,v,c,R,U,g,W⟩⟩⟩
 rcases B with⟨x,rfl⟩|⟨x,_⟩|⟨a7,rfl,G⟩
 ·cases E with
  |leaf=>exact w iP iP
  |node H=>exact n9 ⟨λ_=>p.stepA1 O k l hrel _,q⟩
 ·exact absurd x z
 ·rcases G.cases with C|⟨r,rfl,M⟩
  ·obtain⟨m,_⟩:=C e (Mv.RoR.refl e);cases E with
   |leaf=>exact w iP m
   |node H=>subst m;exact n9 ⟨λ_=>p.stepA1 O k l hrel _,q⟩
  ·refine n9 ⟨λ_=>?_,q⟩;obtain⟨N,P,X,V,⟨rfl,L⟩,A⟩:=M e (Mv.RoR.refl e);refine p8 ⟨N,P,X,V,ER E s (r+2+j),RL Aa,n9 (p8 ⟨E,s,r+2,j,iP,Q,S,n,h,v,c,R,U,f,p.tr (Afr O.1 p.ti L _ _).1,n9 (n9 ⟨r,iP,A⟩),Aa,?_,l,λd=>let⟨T,g⟩:=hrel d;⟨T,g.appOther λa8 Z=>?_⟩⟩)⟩
   ·rwa[El k.status]
   ·obtain⟨d,a1,rfl⟩:=o1 Z;obtain⟨aa,rfl,_,_⟩:=L d a1;exact⟨by show 0≠D.L.k;have:=O.1.1;omega,by simp[MemAct.ofEvent]⟩
end
open Go.ConcN (sumTo upd sumTo_upd upd_ne upd_same)
section
variable {D:Mw} {F:Vz D} {i:Tree} {c:Ren} {s:WS} {e:MuP}
theorem Gh.close(O:D.Ok)(f:Gh D Q [] S E .leaf n h v c R U w t)(B:Sy D E I n h a w)(l:Nat):StepB D.P D.L.k a (Bn c R) w t (JDL D F (YL 0 E .leaf l)):=by
 obtain⟨ag,hF⟩:=f.fb.2 U.drawn;obtain⟨H,j⟩:=F.finB _ _ _ hF;obtain⟨_,L,j⟩:=j c w f.sb.fix f.cb.2 f.gb.2 ⟨_,_,f.wg⟩;obtain⟨s,d,M⟩:=f.ch;obtain⟨g,C,J,m,T⟩:=j s s d M;have Y:(w.shut D.L.Ch s s d).heap[D.L.Ch]? = ni (.chan 0 #[] tu s s d):=NT (N7 M);have X:Da w (w.shut D.L.Ch s s d) #[⟨.obj D.L.Ch,tu,tu⟩]:=Lh w M (λ_ _ _ e=>BB) (.chan 0 #[] tu s s d) (λ_ _ _ e=>BB) tu rfl;obtain⟨u,k,K,G,_⟩:=f.toGb.change O X λe N=>Ai;have o:Eh D.ty D.L.Wg (w.shut D.L.Ch s s d) KK 0:=by
  have e:(w.shut D.L.Ch s s d).heap[D.L.Wg]? = w.heap[D.L.Wg]?:=Wy O.neq;have p:=f.wg;unfold Eh at p⊢;exact e.trans p
 have q:Gc D F Q S E u h (v.at (w.shut D.L.Ch s s d).drawn) k R (U.at (w.shut D.L.Ch s s d).drawn) (w.shut D.L.Ch s s d) (t++MemOp.ofEvents D.L.k (Bn c R).frame.fn (Bn c R).frame.place #[⟨.obj D.L.Ch,o9,tu⟩,⟨.obj D.L.Ch,tu,tu⟩]) 0:=
  ⟨K,f.fa.at _,f.fb.1,F.atB _ _ _ H,(Afq (O.cfg Q w a) f.ti (show Ol w (w.shut D.L.Ch s s d) from Ac4 M rfl) (N7 Y) (Bn c R).frame.fn (Bn c R).frame.place),⟨s,s,d,Y⟩⟩
 have r:Y8 D .r0 (m+1) 0 g (w.shut D.L.Ch s s d):=⟨rfl,m,rfl,T⟩;have P:∀{x:o5},woken D.P (Bn c R) g (w.shut D.L.Ch s s d) a=a->I≠0->StepB D.P D.L.k a (Bn c R) w t (JDL D F (YL 0 E .leaf l)):=λ{x} e i=>
  p8 ⟨g,_,_,C,ER E .r0 (I+(m+1)),.left _ _ Aa,n9 (p8 ⟨E,.r0,I,m+1,rfl,Q,S,u,h,_,k,R,_,0,q,by rw[e];exact B.keep G (SU O.lot X λe N=>Ai),i,r,o,λe=>absurd rfl e⟩)⟩
 rcases B.status f.runA with⟨y,i⟩|⟨y,i⟩
 ·exact P (x:=a) (El (p8 y)) i
 ·rcases B with⟨e,_⟩|⟨_,rfl,z,rfl⟩|⟨Z,e,_⟩
  ·omega
  ·have e:woken D.P (Bn c R) g (w.shut D.L.Ch s s d) (parked (core (Bn n h)) #[rcase D.L.Ch z] (.recv tu)) = { parked (core (Bn n h)) #[rcase D.L.Ch z] (.recv tu) with status:=.running }:=by
    unfold woken;rw[aJ (by rw[L,J];rfl)];exact again_recv_closed Y
   obtain⟨V,A,b,W⟩:=q.end (a:=woken D.P (Bn c R) g (w.shut D.L.Ch s s d) (parked (core (Bn n h)) #[rcase D.L.Ch z] (.recv tu))) O (n9 ⟨_,_,by rw[e,G]⟩) r o λe=>absurd rfl e;exact p8 ⟨g,_,_,C,(0,.leaf,.leaf,A),.left _ _ Aa,p8 ⟨A,rfl,Q,S,_,u,V,_,k,R,_,b,W⟩⟩
  ·omega
def JD.step(O:D.Ok)(g:JD D F e a b w t):Agb D F a b w t∨((a.status=.running->StepA D.P D.L.k a b w t (JDL D F e))/\(b.status=.running->StepB D.P D.L.k a b w t (JDL D F e))):=by
 rcases g with⟨M,rfl,Q,S,r,n,o,v,c,R,U,m,W⟩|⟨E,s,I,u,rfl,g⟩|⟨Z,E,i,I,u,rfl,g⟩
 ·rcases W.step (O.cfg Q r (Bn n o)) with C|⟨C,J⟩
  ·exact p8 ⟨Q,S,r,n,o,v,c,R,U,m,C⟩
  ·exact n9 ⟨λY=>(C Y).mono λa b w t⟨d,K,W⟩=>⟨_,.right _ (.right _ (.right _ K)),p8 ⟨d,iP,Q,S,r,n,o,v,c,R,U,m,W⟩⟩,λY=>(J Y).mono λa b w t⟨d,K,W⟩=>⟨_,.right _ (.right _ (.right _ K)),p8 ⟨d,iP,Q,S,r,n,o,v,c,R,U,m,W⟩⟩⟩
 ·exact g.step O
 ·have f:∀a b w t,KP D _ a b w t->JDL D F (YL (iR Z) E i (I+u)) a b w t:=λa b w t⟨y,l,T,N,k,K,H⟩=>⟨_,K,n9 (n9 ⟨y,l,T,N,k,iP,H⟩)⟩;refine n9 ⟨λY=>(g.stepA O Y).mono f,λY=>g.stepB O Y (λQ S n h v c R U p B j L q=>?_) f⟩;subst j L q;exact p.close O B _
def JD.at(O:D.Ok)(d)(g:JD D F e a b w t):JD D F e a b (w.at d) t:=by
 rcases g with⟨M,rfl,Q,S,r,n,o,v,c,R,U,m,W⟩|⟨E,s,I,k,rfl,Q,S,n,h,v,c,R,U,f,q,B,y,A,C,j⟩|⟨Z,E,i,I,k,rfl,g⟩
 ·exact p8 ⟨M,iP,Q,S,r,n,o,v,c,R,U,m,W.at (O.cfg _ _ _) d⟩
 ·exact n9 (p8 ⟨E,s,I,k,iP,Q,S,n,h,_,c,R,_,f,q.at d,B.keep iP ((Mv.RoR.refl _).at d),y,A.rely λx=>x,C,j⟩)
 ·exact n9 (n9 ⟨Z,E,i,I,k,iP,g.at d⟩)
def JD.mute(O:D.Ok){d u j}(G:d≠0)(p:d≠D.L.k)(L:∀k∈X,Event.mute k=tu)(g:JD D F e a b w t):JD D F e a b w (t++MemOp.ofEvents d u j X):=by
 rcases g with⟨M,rfl,Q,S,r,n,o,v,c,R,U,m,W⟩|⟨E,s,I,Y,rfl,Q,S,n,h,v,c,R,U,f,q,B,y,A,C,P⟩|⟨Z,E,i,I,Y,rfl,g⟩
 ·exact p8 ⟨M,iP,Q,S,r,n,o,v,c,R,U,m,W.mute (O.cfg _ _ _) G p L⟩
 ·refine n9 (p8 ⟨E,s,I,Y,iP,Q,S,n,h,v,c,R,U,f,q.tr (FW (O.cfg Q w a) q.ti G p L _ _),B,y,A,C,λk=>let⟨H,m⟩:=P k;⟨H,m.appOther λJ T=>?_⟩⟩);obtain⟨k,N,rfl⟩:=o1 T;refine⟨p,λx=>?_⟩;have:=L k N;have ⟨l,wr,z⟩:=k;cases l with
  |mark K=>cases wr<;>cases z<;>simp[MemAct.ofEvent]at x<;>subst x<;>simp[Event.mute]at this
  |_=>simp[Event.mute]at this
 ·exact n9 (n9 ⟨Z,E,i,I,Y,iP,g.mute O G p L⟩)
def JD.wake(O:D.Ok)(x d)(g:JD D F e a b w t):∃j,JD D F j (woken D.P x d w a) (woken D.P x d w b) w t:=by
 rcases g with⟨M,rfl,Q,S,r,n,o,v,c,R,U,m,W⟩|⟨E,s,I,y,rfl,g⟩|⟨Z,E,i,I,y,rfl,g⟩
 ·have ⟨k,C⟩:=W.wake (O.cfg Q r (Bn n o)) x d;exact⟨_,p8 ⟨k,iP,Q,S,r,n,o,v,c,R,U,m,C⟩⟩
 ·have l:b.status=.running∨b.status=.finished:=by
   have ⟨Q,S,n,h,v,c,R,U,f,u,B,z,p,_⟩:=g;exact p.status
  rw[El (p8 g.runA),El l];exact⟨_,n9 (p8 ⟨E,s,I,y,iP,g⟩)⟩
 ·have ⟨q,L⟩:=g.wake D.P x d;rw[q,L];exact⟨_,n9 (n9 ⟨Z,E,i,I,y,iP,g⟩)⟩
def JD.awake(g:JD D F e a b w t):awake a/\awake b/\(a.status=.running∨b.status=.running):=by
 have d:∀{h},(h.status=.running∨h.status=.blocked∨h.status=.finished)->Conc.awake h:=λg t k=>by
  grind
 rcases g with⟨M,rfl,Q,S,r,n,o,v,c,R,U,m,W⟩|⟨E,s,I,l,rfl,g⟩|⟨Z,E,i,I,l,rfl,g⟩
 ·exact W.awake
 ·have y:=g.runA;have ⟨Q,S,n,h,v,c,R,U,f,p,B,z,j,_⟩:=g;exact⟨d (p8 y),d (j.status.imp id n9),p8 y⟩
 ·exact g.awake
def RX(O:D.Ok){gs sl}{q:Nat->Nat}(k:gs[0]?=ni a)(x:gs[D.L.k]?=ni b)(H:Np D.P t gs D.L.k q)(W:JD D F e a b w t):∃N I g f A j K,
   runNT D.P N (crowd gs w sl) t=(.next (crowd I f A),j)/\I.size=gs.size/\I[0]?=ni g/\g.status=.running/\(∃Q S r n o v c R U,WI D F Q S r n o v c R U/\I0 D.KA r f/\Sx D.P (Bn n o) g f)/\Aa3 D.ty D.L.Wg D.L.Ch f /\
   Leavers D.P j I K/\Past (λl=>D.L.Shun l∨Gy D.L.Wg l) f.1.size j:=by
 obtain⟨N,I,g,Z,f,A,j,K,Y,J,y,E,⟨Q,S,r,n,o,v,c,R,U,s,i⟩,z⟩:=Ad7 (P:=D.P) (k:=D.L.k) (lt:=Si) (J:=JD D F) (Fin:=Agb D F) O.1.1 Ade
  (λe a b w t m d=>d.at O m) (λa b w t m⟨Q,S,r,n,o,v,c,R,U,s,d⟩=>⟨Q,S,r,n,o,v,c,R,U,s,d.back (O.cfg _ _ _) m⟩) (λe a b w t p fn P es k L T d=>d.mute O k L T) (λe a b w t h R d=>d.wake O h R) (λe a b w t d=>d.awake) (λe a b w t d=>d.step O)
  (sumTo gs.size q) e gs a b w sl t q (aB _) k x H W
 obtain⟨u,C⟩:=i.3;obtain⟨V,X⟩:=i.post;refine⟨N,I,g,f,A,j,upd K D.L.k u,Y,J,y,i.run,⟨Q,S,r,n,o,v,c,R,U,s,X,V⟩,i.shut,⟨λp h B G=>?_,z.2⟩,i.past⟩;by_cases M:p=D.L.k
 ·subst M;rw[E]at G;obtain rfl:=aA G
  rwa[upd_same]
 ·rw[upd_ne K u M];exact z.old p h B M G
end
open Go.ConcN (sumTo upd sumTo_upd upd_ne upd_same)
section
variable {Y:iH} {p:hZ} {d:Nat}
def Ends.forkD(s:g.status=.running)(h:∀n k,0<k->∃(D:Mw)(F:Vz D)(Q:hZ)(b a:o5),D.P=P/\D.L.k=k/\D.L.Shun=p/\D.Ok/\stepG P tu g (w.at n)=.spawn b a (w.at n) #[] /\
   (∀t,D.L.TI Q t (w.at n) 0 0->∃x,JD D F x b a (w.at n) t) /\
   ∀Q S r n o C E R G B,WI D F Q S r n o C E R G->I0 D.KA r B->Aa3 D.ty D.L.Wg D.L.Ch B->o.status=.running->Ends P Y (λl=>p l∨Gy D.L.Wg l) 0 (Bn n o) B):Ends P Y p 0 g w:=by
 refine Ends.pick s λn gs A t q i c H=>?_;have d:0<gs.size:=(aH.1 i).1;obtain⟨D,F,Q,b,a,J,m,K,O,L,W,M⟩:=h n gs.size d;subst J K
 let N:=b
 have I:=runT_crowd_spawn (P:=D.P) (sl:=A) (i:=0) i (show stepG D.P (0==0) g (w.at n)=_ from L);have V:((MemOp.ofEvents 0 g.frame.fn g.frame.place #[]).push { g:=0,fn:=g.frame.fn,pos:=g.frame.place,act:=.go gs.size }).push { g:=gs.size,fn:=a.frame.fn,pos:=g.frame.place,act:=.start }=#[({ g:=0,fn:=g.frame.fn,pos:=g.frame.place,act:=.go D.L.k }:MemOp),{ g:=D.L.k,fn:=a.frame.fn,pos:=g.frame.place,act:=.start }]:=by
  rw[m];simp[MemOp.ofEvents]
 rw[V]at I;have z:∀op∈(#[({ g:=0,fn:=g.frame.fn,pos:=g.frame.place,act:=.go D.L.k }:MemOp),{ g:=D.L.k,fn:=a.frame.fn,pos:=g.frame.place,act:=.start }]:ql),op.act≠.mark .disable/\op.act≠.mark .enable:=λop T=>by
  simp at T;rcases T with rfl|rfl<;>simp
 have X:((gs.setIfInBounds 0 b).push a)[D.L.k]?=ni a:=by
  have e:((gs.setIfInBounds 0 b).push a)[(gs.setIfInBounds 0 b).size]?=ni a:=Array.getElem?_push_size;rw[Array.size_setIfInBounds]at e
  rwa[m]
 obtain⟨Z,a1,a6,B,aq,t',q',u,hz,x0,ah,⟨a7,S2,a8,n2,aa,v2,n3,g3,v3,xR,xK,xa⟩,xE,xL,xP⟩:=RX (D:=D) (F:=F) (a:=b) (b:=a) (w:=w.at n) (sl:=A) (q:=q) O
  (gs:=(gs.setIfInBounds 0 b).push a) (t:=t++#[({ g:=0,fn:=g.frame.fn,pos:=g.frame.place,act:=.go D.L.k }:MemOp),{ g:=D.L.k,fn:=a.frame.fn,pos:=g.frame.place,act:=.start }])
  (by rw[w7 (by simpa using d)];simp[d]) X
  ⟨λj y f ai U=>by
   have v:j<gs.size:=by
    have:=(aH.1 U).1;simp at this;omega
   rw[w7 (by simpa using v)]at U;rw[lg t j _ z];apply c.old j y f;have e:(gs.setIfInBounds 0 b)[j]?=ni y:=by
    rwa[aO (by simpa using v)]
   rwa[aE Aa]at e,
   λj f=>by
   rw[lg t j _ z];apply c.2 j;simp at f;omega⟩
  (W _ (Aik (C:=D.c0 Q (w.at n) N) (w:=w.at n) (t:=t) O.1.1 H.to (c.2 D.L.k Aa) g.frame.fn a.frame.fn g.frame.place g.frame.place)).choose_spec
 obtain⟨ab,xm,ad⟩:=xa;have al:Ends D.P Y (λl=>D.L.Shun l∨Gy D.L.Wg l) 0 a6 B:=Ends.goes (D:=D0) (λw1 w2 es h=>by obtain⟨rfl,rfl⟩:=h;exact⟨aB _,Ad⟩) (λg1 w1 h=>by
  obtain⟨rfl,d1,rfl⟩:=h;exact M a7 S2 a8 n2 aa v2 n3 g3 v3 (B.at d1) xR (xK.trans (I0.at _ _ _)) xE ab) (Xv ⟨B.drawn,iP⟩ ad)
 obtain⟨N2,ae,af,wf,tf,r1,r2,r3,r4⟩:=al a1 aq t' q' x0 xL (.of xP);refine⟨_,_,I,Z+N2,ae,af,wf,tf,?_,?_,r3,r4⟩
 ·rwa[eM,runNT_add,u]
 ·rwa[runN_add,←runNT_fst D.P _ _ (t++#[({ g:=0,fn:=g.frame.fn,pos:=g.frame.place,act:=.go D.L.k }:MemOp),{ g:=D.L.k,fn:=a.frame.fn,pos:=g.frame.place,act:=.start }]),u]
end
structure GH(S:hZ):Prop where
 cell:∀a a':Addr,S (.cell a)->a'.block=a.block->S (.cell a')
 obj:∀r,¬S (.obj r)
def GH.wg{S}(h:GH S)(q):GH λl=>S l∨Gy q l:=⟨λb a d e=>by
 rcases d with d|⟨c,D,E⟩
 ·exact p8 (h.cell b a d e)
 ·cases D;exact n9 ⟨a,iP,e.trans E⟩,λr Y=>by
 rcases Y with Y|⟨c,D,_⟩
 ·exact h.obj r Y
 ·cases D⟩
structure E2 where
 post:w8->qg->Prop
 In:Loc->Prop
 W0:qg
 ex:∀a,In (.cell a)->∃x,W0.cell? a=ni x
 exO:∀r,In (.obj r)->∃o,W0.1[r]?=ni o/\Ci o
 exM:∀l,In l->(∃a,l=.cell a)∨∃r,l=.obj r
 num:Nat
 nf:Nat->Nat
structure E2.Kept(H:E2)(w:qg):Prop where
 cell:∀a,H.In (.cell a)->w.cell? a=H.3.cell? a
 row:∀r(c:iB)e(fz:Nat×Nat),H.3.1[r]?=ni (jf c e fz)->(c=#[]∨∃j,H.In (.cell (iK r j)))->∃c',w.1[r]?=ni (jf c' e fz)/\c'.size=c.size
 obj:∀r(o:Obj),H.In (.obj r)->H.3.1[r]?=ni o->Ci o->w.1[r]?=ni o
def E2.Kept.low{H:E2}(h:H.Kept w)(K:H.In l):Ph w.1.size l:=by
 rcases H.6 l K with⟨a,rfl⟩|⟨r,rfl⟩
 ·have ⟨x,Z⟩:=H.ex a K;rw[←h.cell a K]at Z;exact Jw Z
 ·have ⟨o,O,z⟩:=H.5 r K;exact(aH.1 (h.obj r o K O z)).1
def E2.Kept.at{H:E2}(h:H.Kept w)(d):H.Kept (w.at d):=⟨h.cell,h.row,h.obj⟩
def E2.Kept.frame{H:E2}{B}(h:H.Kept w)(f:Da w B L)(N:∀e∈L,e.write=tu->¬H.In e.loc):H.Kept B:=
 ⟨λa d=>(f.cell a (h.low d) λe Z W K=>N e Z W (K▸d)).trans (h.cell a d),λr c e b Y V=>by
  have ⟨Q,C,J⟩:=h.row r c e b Y V;have ⟨R,T,q⟩:=f.row r Q e b C
  grind,λr o Y O z=>f.obj r o (h.obj r o Y O z) z λe Z W K=>N e Z W (K▸Y)⟩
def E2.Kept.ror{H:E2}{C:Mv}{B}(h:H.Kept w)(Y:C.RoR w B)(V:∀l,H.In l->C.5 l):H.Kept B:=
 ⟨λa d=>(Y.cell a (V _ d) (h.low d)).trans (h.cell a d),λr c e b Z M=>by
  have ⟨Q,f,J⟩:=h.row r c e b Z M;have ⟨R,T,q⟩:=Y.row r Q e b f
  grind,λr o Z O z=>Y.obj r o (V _ Z) (h.obj r o Z O z) z⟩
def E2.Own(H:E2)(Shun:hZ)(l:Loc):Prop:=¬Shun l/\¬H.In l
structure E2.Shd(H:E2)(w:qg)(Shun:hZ)(n):Prop where
 low:∀l,Shun l->Ph w.1.size l
 blk:GH Shun
 off:∀l,Shun l->¬H.In l
 kept:H.Kept w
 nn:∀i,i<H.num->sh n i=H.nf i/\H.nf i<iS w.1
def E2.Shd.at{H:E2}{p}(h:H.Shd w p n)(d):H.Shd (w.at d) p n:=⟨h.low,h.blk,h.off,h.kept.at d,h.nn⟩
def EN(P:vg)(Post:E2)(J:hZ)(g:o5)(v:qg):Prop:=
 ∀n(w:qg)Shun,Dq P n J (Post.Own Shun) g v w->Post.Shd w Shun n->Ends P Post.post Shun 0 (Bn n g) w
section
variable {Y:E2} {J U:hZ}
def EN.ofT:∀{T} {g} {v},FwT P tu J (EN P Y J) T g v->EN P Y J g v:=by
 intro T
 induction T with
 |leaf=>exact λ{g v} h=>h.2 v.drawn
 |node f O=>
  intro g v h n w p k H;have ⟨_,s,I⟩:=h;refine Ends.step s λd=>?_;have ⟨a,U,E,F⟩:=I d;have ⟨B,X,L,C,j,b,q,z⟩:=(k.at d).step E (λ_ _ h=>h) λl R=>⟨λZ=>En (aB _) (H.low l Z) R,λZ=>En (aB _) (H.kept.low Z) R⟩;refine⟨Bn n a,B,X,C,b.size,λe N=>⟨λx Z H=>by
   rcases Wi (q e (z e N)) Z with C|⟨r,_,_,C⟩
   ·exact absurd H C.1
   ·rw[C];simp,GY (q e (z e N))⟩,?_⟩
  rw[jz λe N=>Wh (q e (z e N))];exact O d F n B p j ⟨λl Z=>N6 b.size (H.low l Z),H.blk,H.off,(H.kept.at d).frame b λe N W=>by
   rcases Oq (q e N) W with⟨x,_⟩|⟨m,x⟩
   ·exact x.2
   ·rw[x];exact λV=>(by rcases Y.6 _ V with⟨c,e⟩|⟨r,e⟩<;>cases e),λi V=>⟨(H.nn i V).1,aC (H.nn i V).2 b.size⟩⟩
def EN.ret(s:h.status=.running)(a:∀n w p,Dq P n J (Y.Own p) h v w->Y.Shd w p n->∃x,(∀d,stepG P tu (Bn n h) (w.at d)=.ended (.done x) (w.at d) #[])/\∀d,Y.post x (w.at d)):EN P Y J h v:=λn w p b H=>
 Ends.ret s λd=>let⟨x,C,c⟩:=a n w p b H;⟨x,#[],C d,Ad,c d⟩
def Dq.recast{a b G B}(c:Dq P n J a h v w)(N:iS G.1=iS v.1)(W:iS w.1<=iS B.1)(d:B.tape=G.tape)(y:B.drawn=G.drawn)(O:B.os=G.os)(Q:B.output=G.output)(H:iS B.1=iS w.1)(K:∀i o,G.1[i]?=ni o->∃I,B.1[sh n i]?=ni I/\LikeO n U i o I)(e:Wf U R G)(f:∀l,I3 G l->¬U l->b (Gg n l)):Dq P n U b R G B:=
 ⟨λt=>⟨λj g=>by rw[N,H];exact(c.sm (iS v.1+j+1)).top j Aa,λi V=>by rw[H];exact(c.sm 0).lt i Aa,λi V=>by rw[H];exact(c.sm 0).out i Aa,K,d,y,O,Q⟩,c.fix,by rw[N];exact c.glob,e,f⟩
end
def WI.sides{D F g a b t}(h:WI D F Q S g n t v b R U)(E:I0 D.KA g a)(N:Aa3 D.ty D.L.Wg D.L.Ch a):∃L,Da g a L/\∀e∈L,Gy D.L.Wg e.loc∨e.loc=.obj D.L.Ch:=by
 obtain⟨⟨x,w,m⟩,W,B,y,j⟩:=N;obtain⟨H,u,G⟩:=h.wg;obtain⟨s,r,d,M⟩:=h.ch;unfold Eh JU at G m;have I:∀i,i≠D.L.Wg->i≠D.L.Ch->i<iS g.1->a.1[i]?=g.1[i]?:=λi C J V=>by
  have e:g.1[i]?=ni g.1[i]:=aO V;rw[e];exact E.keep i _ e ⟨C,J⟩
 refine⟨#[⟨.cell (iJ D.L.Wg),tu,tu⟩,⟨.cell (iK D.L.Wg 1),tu,tu⟩,⟨.obj D.L.Ch,tu,tu⟩],⟨E.size,λc K z=>?_,λi o O f z=>?_,λi k e A V=>?_,λi o O f=>?_,E.tape,E.os,E.output⟩,λe Z=>?_⟩
 ·by_cases C:c.block=D.L.Wg
  ·obtain⟨p,o,l⟩:=c;simp only at C;subst C;cases l with
   |some q=>simp[sw,G,m]
   |none=>
    have J:2<=o:=by
     rcases o with _|_|o
     ·exact absurd iP (z ⟨.cell (iJ D.L.Wg),tu,tu⟩ Ad iP)
     ·exact absurd iP (z ⟨.cell (iK D.L.Wg 1),tu,tu⟩ Ad iP)
     ·omega
    rw[Cg m o,Cg G o,cS (by simpa using J),cS (by simpa using J)]
  ·by_cases J:c.block=D.L.Ch
   ·unfold sw;rw[J,M,j]
   ·unfold sw;rw[I _ C J K]
 ·have C:i≠D.L.Wg:=λe=>by subst e;rw[G]at O;exact f _ _ _ (aA O).symm
  have J:i≠D.L.Ch:=λe=>by subst e;exact z ⟨.obj D.L.Ch,tu,tu⟩ Ad iP iP
  exact E.keep i o O ⟨C,J⟩
 ·by_cases C:i=D.L.Wg
  ·subst C;rw[G]at V;simp at V;obtain⟨rfl,rfl,rfl⟩:=V;exact⟨_,m,Ad⟩
  ·have J:i≠D.L.Ch:=λe=>by subst e;rw[M]at V;cases V
   exact⟨k,E.keep i _ V ⟨C,J⟩,iP⟩
 ·by_cases J:i=D.L.Ch
  ·subst J;have e:o=.chan 0 #[] tu s r d:=aA (O.symm.trans M);exact⟨_,j,λ_ _ _ e=>BB,by rw[e];rfl⟩
  ·exact⟨o,E.keep i o O ⟨(λe=>by subst e;rw[G]at O;exact f _ _ _ (aA O).symm),J⟩,f,iP⟩
 ·simp at Z;rcases Z with rfl|rfl|rfl
  ·exact p8 ⟨_,iP,iP⟩
  ·exact p8 ⟨_,iP,iP⟩
  ·exact n9 iP
def WI.last{D}(O:D.Ok){F r B a o}(h:WI D F Q S r n o v a R U)(E:I0 D.KA r B)(N:Aa3 D.ty D.L.Wg D.L.Ch B):∃u b,WI D F Q S B u o (v.at B.drawn) b R (U.at B.drawn)/\Bn u o=Bn n o:=by
 have ⟨L,f,I⟩:=h.sides E N;have ⟨u,b,J,G,_⟩:=h.1.change O f I;exact⟨u,b,⟨J,h.pa,h.3,F.atA _ _ _ h.4,F.4 _ _ _ h.eb,N.1,N.2⟩,G⟩
def Ends.forkE{Y}{p:hZ}(s:g.status=.running)(h:∀n k,0<k->∃(D:Mw)(F:Vz D)(Q:hZ)(a b:o5),D.P=P/\D.L.k=k/\D.L.Shun=p/\D.Ok/\stepG P tu g (w.at n)=.spawn a b (w.at n) #[] /\
   (∀t,D.L.TI Q t (w.at n) 0 0->∃d,JD D F d a b (w.at n) t) /\
   ∀Q S n o v c R U B,WI D F Q S B n o v c R U->o.status=.running->Ends P Y (λl=>p l∨Gy D.L.Wg l) 0 (Bn n o) B):=
 Ends.forkD s λn k E=>by
  obtain⟨D,F,Q,a,b,C,J,T,q,z,f,M⟩:=h n k E;refine⟨D,F,Q,a,b,C,J,T,q,z,f,λQ S x n o v c R U B e i j G=>?_⟩;obtain⟨u,m,N,r⟩:=e.last q i j;rw[←r];exact M Q S u o _ m R _ B N G
section
variable {J Own:hZ}
def Dq.reveal(f:Dq P n J Own h v e){i off}{c:iB}{a b}(Y:v.1[i]?=ni (jf c a b))(O:off<c.size){x}(Z:A1 (.up v.1.size) x=x)(A:e.cell? ⟨sh n i,off,su⟩=ni (A1 n x)):Dq P n (λl=>J l/\l≠.cell (iK i off)) (λl=>Own l∨l=.cell ⟨sh n i,off,su⟩) h (v.setCell (iK i off) x) e:=by
 have V:=(aH.1 Y).1;have N:(v.setCell (iK i off) x).1.size=iS v.1:=size_setCell _ _ _;have o:∀j q,(v.setCell (iK i off) x).1[j]?=ni q->(j=i/\q=jf (c.setIfInBounds off x) a b)∨(j≠i/\v.1[j]?=ni q):=λj q k=>by
  rw[heap_setCell]at k
  grind
 have row:∀m(I:Obj),LikeO m J i (jf c a b) I->(∀B,I=jf B a b->B[off]?=ni (A1 m x))->LikeO m (λl=>J l/\l≠.cell (iK i off)) i (jf (c.setIfInBounds off x) a b) I:=λm I K M=>by
  have w:∀B,I=jf B a b->B.size=c.size->(∀j,¬J (.cell (iK i j))->B[j]?=(c[j]?).map (A1 m))->LikeO m (λl=>J l/\l≠.cell (iK i off)) i (jf (c.setIfInBounds off x) a b) I:=λB S L G=>by
   refine n9 (p8 ⟨_,B,a,b,iP,S,by simpa using L,λj k=>?_⟩);by_cases ej:off=j
   ·grind
   grind
  rcases K with rfl|⟨s,B,E,H,C,g,T,p⟩|⟨_,C,_⟩|⟨B,E,H,C,g⟩
  ·exact w _ iP Ad λj _=>aN ..
  ·grind
  ·exact absurd iP (C _ _ _)
  grind
 have r:∀m(j:Nat)q I,j≠i->LikeO m J j q I->LikeO m (λl=>J l/\l≠.cell (iK i off)) j q I:=λm j q I k K=>by
  rcases K with C|⟨s,B,E,H,C,g,T,p⟩|⟨u,C,g⟩|C
  ·exact p8 C
  ·refine n9 (p8 ⟨s,B,E,H,C,g,T,λd Q=>p d λW=>Q ⟨W,λa=>k ?_⟩⟩);injection a with a;injection a with a _ _
  ·exact n9 (n9 (p8 ⟨⟨⟨u.1,Ad⟩,u.2⟩,C,g⟩))
  ·exact n9 (n9 (n9 C))
 refine f.recast N (aB _) (f.sm 0).tape (f.sm 0).drawn (f.sm 0).os (f.sm 0).output iP (λj q k=>?_) ⟨λj q k=>?_,by rw[N];exact f.wf.2⟩ λl K k=>?_
 ·rcases o j q k with⟨rfl,rfl⟩|⟨C,g⟩
  ·obtain⟨I,T,p⟩:=(f.sm 0).4 _ _ Y;refine⟨I,T,row n I p λB S=>?_⟩;subst S
   rwa[←Cg T off]
  ·obtain⟨I,T,p⟩:=(f.sm 0).4 _ _ g;exact⟨I,T,r n j q I C p⟩
 ·rw[N];rcases o j q k with⟨rfl,rfl⟩|⟨C,g⟩
  ·rcases f.wf.mem _ _ Y with d|⟨s,B,E,H,F,z,q3,X⟩|⟨_,d,_⟩|⟨B,E,H,F,z⟩
   ·refine n9 (p8 ⟨_,_,a,b,iP,iP,iP,λy U=>?_⟩);simp only[Dt]at d;injection d with d _ _;by_cases D:off=y
    ·subst D;simp[O,Z]
    ·rw[aE D]
     conv=>lhs;rw[d]
     exact aN ..
   ·cases F;cases z;refine n9 (p8 ⟨_,_,a,b,iP,iP,iP,λy U=>?_⟩);by_cases D:off=y
    ·subst D;simp[O,Z]
    ·rw[aE D];refine X y λW=>U ⟨W,λd=>D ?_⟩;injection d with d;injection d with _ d _;exact d.symm
   ·exact absurd iP (d _ _ _)
   ·injection F with d _ _;subst d;simp at O
  ·exact r _ j q q C (f.wf.mem j q g)
 ·by_cases R:l=.cell (iK i off)
  ·subst R;exact n9 iP
  ·refine p8 (f.own l ?_ λW=>k ⟨W,R⟩);have:=Tz (v:=v) (v':=v.setCell (iK i off) x) (Gf v (iK i off) x tu) K;rcases this with y|y
   ·exact y
   ·exfalso;cases l with
    |cell t=>
     obtain⟨d,Q⟩:=K;have:=Jw Q;rw[N]at this;have:iS v.1<=t.block:=y;omega
    |obj t=>
     obtain⟨d,Q,_⟩:=K;have:=(aH.1 Q).1;rw[N]at this;have:iS v.1<=t:=y;omega
    |_=>exact K.elim
end
section
variable {J Own:hZ}
def Dq.unblank(f:Dq P n J Own h v e){a d}(Y:v.1[i]?=ni (jf #[] a d)){c:iB}(Z:c.map (A1 (.up v.1.size))=c)(W:e.1[sh n i]?=ni (jf (c.map (A1 n)) a d)):Dq P n J (λl=>Own l∨M3 (sh n i) l) h { v with heap:=v.1.setIfInBounds i (jf c a d) } e:=by
 have N:({ v with heap:=v.1.setIfInBounds i (jf c a d) }:qg).1.size=iS v.1:=Ad;have o:∀j q,({ v with heap:=v.1.setIfInBounds i (jf c a d) }:qg).1[j]?=ni q->(j=i/\q=jf c a d)∨(j≠i/\v.1[j]?=ni q):=λj q k=>by
  grind
 refine f.recast N (aB _) (f.sm 0).tape (f.sm 0).drawn (f.sm 0).os (f.sm 0).output iP (λj q k=>?_) ⟨λj q k=>?_,by rw[N];exact f.wf.2⟩ λl K k=>?_
 ·rcases o j q k with⟨rfl,rfl⟩|⟨C,g⟩
  ·exact⟨_,W,p8 iP⟩
  ·exact(f.sm 0).4 _ _ g
 ·rw[N];rcases o j q k with⟨rfl,rfl⟩|⟨C,g⟩
  ·exact p8 (by simp only[Dt];rw[Z])
  ·exact f.wf.mem j q g
 ·cases l with
  |cell b=>
   by_cases R:b.block=i
   ·exact n9 (by show sh n b.block=sh n i;rw[R])
   ·refine p8 (f.own _ ?_ k);have ⟨x,Z⟩:=K;refine⟨x,?_⟩;unfold sw at Z⊢
    grind
  |obj r=>
   have ⟨q,O,M⟩:=K;rcases o r q O with⟨rfl,rfl⟩|⟨_,g⟩
   ·exact absurd iP (M _ _ _)
   ·exact p8 (f.own (.obj r) ⟨q,g,M⟩ k)
  |_=>exact K.elim
end
def LikeO.monoJ{J U o I}(W:∀l,J l->U l)(h:LikeO n J i o I):LikeO n U i o I:=by
 rcases h with h|⟨c,B,e,b,C,a,T,q⟩|⟨F,C,a⟩|h
 ·exact p8 h
 ·exact n9 (p8 ⟨c,B,e,b,C,a,T,λj d=>q j λx=>d (W _ x)⟩)
 ·exact n9 (n9 (p8 ⟨⟨W _ F.1,F.2⟩,C,a⟩))
 ·exact n9 (n9 (n9 h))
def Dq.less{J J' a Own' g'}(h:Dq P n J a g v w)(W:∀l,J l->J' l)(G:Bn (.up v.1.size) g'=g')(H:∀l,I3 v l->¬J' l->a (Gg n l)->Own' (Gg n l)):Dq P n J' Own' g' v w:=
 ⟨λt=>let s:=h.sm t;⟨s.top,s.lt,s.out,λi o O=>let⟨I,C,d⟩:=s.4 i o O;⟨I,C,d.monoJ W⟩,s.tape,s.drawn,s.os,s.output⟩,h.fix,h.glob,⟨λi o O=>(h.wf.mem i o O).monoJ W,G⟩,λl K c=>H l K c (h.own l K λx=>c (W l x))⟩
def JD.start{D F ms n n' g g' v v' mA mB}(f:D.low<=iS w.1)(B:∀l,Q l->Ph w.1.size l)(e:Dq D.P n D.JA (D.L.A Q) g v w)(d:Dq D.P n' D.JB (D.L.B Q) g' v' w)(c:Fw D.P tu D.JA (ScA D ms) g v)(I:Fw D.P o9 D.JB (ScB D ms λ_=>False) g' v')(N:iS v.1=D.8)(L:iS v'.1=D.9)(k:∀i,i<D.8->sh n i=D.fA i)(m:∀i,i<D.9->sh n' i=D.fB i)(p:D.L.RoR D.w0 w)(M:D.4<D.8/\sh n D.4=D.L.Ch)(G:D.5<D.8/\sh n D.5=D.L.Wg)(h:D.6<D.9/\sh n' D.6=D.L.Ch)(o:D.7<D.9/\sh n' D.7=D.L.Wg)(z:∃s j,w.1[D.L.Ch]?=ni (.chan 0 #[] o9 s s j))(q:Eh D.ty D.L.Wg w KK 0)(y:gi D.P tu D.L.RoR D.L.DRo (λx _=>x=Bn n g/\g.status=.running) mA a w)(A:gi D.P o9 D.L.RoR D.L.DRo (λx _=>x=Bn n' g'/\g'.status=.running) mB b w):∀t,D.L.TI Q t w 0 0->∃r,JD D F r a b w t:=λt C=>by
 have ⟨E,c⟩:=c;have ⟨u,I⟩:=I;exact⟨_,n9 (n9 ⟨ms,E,u,mA+2,mB+2,iP,Q,λ_=>False,n,g,v,n',g',v',⟨⟨f,B,e,d,⟨Aa,M.2⟩,⟨Aa,h.2⟩,⟨Aa,G.2⟩,⟨Aa,o.2⟩,Aa,⟨Aa,k,m,p⟩,λi H _ K J _=>Aa,λH K J=>Aa⟩,c,I,C,z,q⟩,n9 (n9 ⟨mA,iP,y⟩),n9 (n9 ⟨mB,iP,A⟩),Aa⟩)⟩
def EN.fork{Y J}(s:g.status=.running)(h:∀n(w:qg)(p:hZ)k d,0<k->Dq P n J (Y.Own p) g (v.at d) w->Y.Shd w p n->∃(D:Mw)(F:Vz D)(Q:hZ)(a b:o5),D.P=P/\D.L.k=k/\D.L.Shun=p/\D.Ok/\stepG P tu (Bn n g) w=.spawn a b w #[] /\
   (∀t,D.L.TI Q t w 0 0->∃c,JD D F c a b w t) /\
   ∀Q S n o v e R U B,WI D F Q S B n o v e R U->o.status=.running->Ends P Y.post (λl=>p l∨Gy D.L.Wg l) 0 (Bn n o) B):EN P Y J g v:=λn w p f H=>
 Ends.forkE s λd k E=>h n _ p k d E (f.at d) (H.at d)
def Ren.ofList(l:iG)(W)(hn:l.Nodup)(hl:∀x∈l,x<W):Ren where
 f i:=if h:i<iR l then l[i] else W+(i - iR l)
 inj:=λ{i j} e=>by
  by_cases hi:i<iR l
  ·by_cases hj:j<iR l
   ·simp only[hi,hj,dite_true]at e;exact(gM hn).1 e
   ·simp only[hi,hj,dite_true,dite_false]at e;have:=hl l[i] (eU hi);omega
  ·by_cases hj:j<iR l
   ·simp only[hi,hj,dite_true,dite_false]at e;have:=hl l[j] (eU hj);omega
   ·simp only[hi,hj,dite_false]at e;omega
section
variable {l:iG} {W:Nat} {z:l.Nodup} {K:∀x∈l,x<W}
def Wp(h:i<iR l):sh (Ren.ofList l W z K) i=l[i]:=by simp[sh,Ren.ofList,h]
def Wo{x}(h:l[i]?=ni x):sh (Ren.ofList l W z K) i=x:=by
 have ⟨C,J⟩:=aD.1 h;rw[Wp C,J]
def ET(h:iR l<=i):sh (Ren.ofList l W z K) i=W+(i - iR l):=by simp[sh,Ren.ofList,Nat.not_lt.2 h]
end
def Dq.ofList{l:iG}{J b}(z)(K:∀x∈l,x<iS w.1)(N:iS v.1=iR l)(R:w.tape=v.tape)(y:w.drawn=v.drawn)(O:w.os=v.os)(Q:w.output=v.output)(a:∀i r(o:Obj),l[i]?=ni r->v.1[i]?=ni o->∃I,w.1[r]?=ni I/\LikeO (Ren.ofList l w.1.size z K) J i o I)(G:∀i,i<P.globals.size->l[i]?=ni i)(c:Wf J g v)(d:∀q,I3 v q->¬J q->b (Gg (Ren.ofList l w.1.size z K) q)):Dq P (Ren.ofList l w.1.size z K) J b g v w:=by
 refine⟨λt=>⟨λj _=>?_,λi V=>?_,λi V=>?_,λi o V=>?_,R,y,O,Q⟩,λi V=>Wo (G i V),?_,c,d⟩
 ·rw[N,ET Aa];omega
 ·rw[N]at V;rw[Wp V]
  simp_all
 ·rw[N]at V;rw[ET V];omega
 ·have Y:i<iR l:=Ai;rw[Wp Y];exact a i _ o (aG Y) V
 grind
open Go.ConcX.Gen Go.RowKit Go.Conc.Lib
variable {D:Mw} {L:WgLink}
def Az{K}(h:E3 D.ty D.L.Wg w)(r:D.RW w K):=r h
set_option maxHeartbeats 4000000 in
def Agk(H:WgLib D.P L)(v:D.ty=L.30){e:Frame}{j o n}{t:iG}{l cs a}(V:QuitsD D.P a 0 (G (e.at (j.put ((o[n]?).bind (·.dst)) (my #[])) (.inRegion o t::l)) cs))(w)(p:E3 D.ty D.L.Wg w):gi D.P o9 D.RW D0 (BR0 D.P D.ty D.L.Wg) 100 (G ((base L.add).at ⟨#[iI D.L.Wg,iL (-1)]++pf 115 uw,[]⟩ [.code (Re L)]) (e.at j (.inRegion o (n::t)::l)::cs)) w:=by
 lib_facts
 simp only[Re,addFn,bJ,dF,dQ,eN,dZ,bR,cJ];have C:∀{w} {st sm},Eh D.ty D.L.Wg w st sm->w.cell? (iJ D.L.Wg)=ni (pq .u64 st)/\w.frozen? (iJ D.L.Wg)=o9/\w.cell? (iK D.L.Wg 1)=ni (pq .u32 sm)/\w.frozen? (iK D.L.Wg 1)=o9:=λh=>by
  exact G9z
 u_c rp Az p
 u_cond tu Az p
 u_c rp Az p
 u_c rp Az p
 u_reg Az p
 u_op Az p
 u_op Az p
 u_c zt Az p
 u_cond tu Az p
 u_reg Az p
 u_op Az p
 u_in Az p
 refine goes_oper_k iP iP (by k_ne) (λN M=>?_);have E:=run_convert_to_unsafe (P:=D.P) H.27 H.32 H.112 (E3.cell0 p).choose_spec;have J:=λX=>events_convert_to_unsafe (P:=D.P) H.27 H.32 H.112 (E3.cell0 p).choose_spec X;go_simp;refine M _ _ ⟨?_,?_⟩
 ·exact Qr8
 clear M N E J;refine mh (λK U=>?_);replace p:=Az p U;clear U;refine⟨iP,_,stepG_markAt .releaseMerge Ad iP iP (by k_ne) iP H.4 (x_relMerge_n L) (x_relMerge_b L) (x_relMerge_x L) (x_relMerge_f L) Af6,100,?_⟩;walk_nrm
 u_c zt Az p
 u_c rp Az p
 u_reg Az p
 refine mh (λK U=>?_);replace p:=Az p U;clear U;refine⟨iP,_,stepG_mark0 .disable Ad iP iP (by k_ne) iP H.5 (x_disable_n L) (x_disable_b L) (x_disable_x L) (x_disable_f L),100,?_⟩;walk_nrm
 u_c zt Az p
 u_reg Az p
 u_defer Az p
 u_c zt Az p
 u_c rp Az p
 u_reg Az p
 u_op Az p
 u_c zt Az p
 u_c rp Az p
 u_c rp Az p
 u_reg Az p
 u_bub Az p
 u_c zt Az p
 u_cond o9 Az p
 u_c kq Az p
 u_c rp Az p
 u_reg Az p
 u_op Az p
 u_op Az p
 u_op Az p
 u_op Az p
 u_op Az p
 u_op Az p
 u_call H.11 (nm_uAdd L) uAddFn Az p
 u_c rp Az p
 u_reg Az p
 u_op Az p
 u_c zt Az p
 u_c rp Az p
 u_reg Az p
 u_op Az p
 u_op Az p
 u_op Az p
 u_op Az p
 refine mh (λK U=>?_);replace p:=Az p U;clear U;have F:IntKind.u64.wrap (KK+18446744069414584320)=0:=Ae;have S:IntKind.u64.wrap (KK+1+18446744069414584320)=1:=Ae;refine⟨iP,λW=>?_,λW=>?_⟩
 ·refine⟨_,(stepG_add_atomic iP iP (by k_ne) iP H.23 (x_addU64_n L) (x_addU64_b L) (x_addU64_x L) .u64 (x_addU64_f L) iP iP (C W).1 (C W).2.1).trans (by rw[F];rfl),a+89,?_⟩;walk_nrm;clear p W;apply ir _ iP iP (by k_ne)
  ·intro w;go_simp;(try w_num);exact iP
  ·intro w;simp[go_sem, *]
  walk_nrm
  q_c zt
  q_c o0
  q_leave1 H.11
  apply ir _ iP iP (by k_ne)
  ·intro w;go_simp;(try w_num);exact iP
  ·intro w;simp[go_sem, *]
  walk_nrm
  q_c zt
  q_c rp
  q_c rp
  q_reg
  apply ir _ iP iP (by k_ne)
  ·intro w;go_simp;(try w_num);exact iP
  ·intro w;simp[go_sem, *]
  walk_nrm;apply ir _ iP iP (by k_ne)
  ·intro w;go_simp;(try w_num);exact iP
  ·intro w;simp[go_sem, *]
  walk_nrm;apply ir _ iP iP (by k_ne)
  ·intro w;go_simp;(try w_num);exact iP
  ·intro w;simp[go_sem, *]
  walk_nrm;apply ir _ iP iP (by k_ne)
  ·intro w;go_simp;(try w_num);exact iP
  ·intro w;simp[go_sem, *]
  walk_nrm
  q_skip
  q_skip
  apply ir _ iP iP (by k_ne)
  ·intro w;go_simp;(try w_num);exact iP
  ·intro w;simp[go_sem, *]
  walk_nrm
  q_c zt
  q_cond o9
  q_c kq
  q_c rp
  q_reg
  apply ir _ iP iP (by k_ne)
  ·intro w;go_simp;(try w_num);exact iP
  ·intro w;simp[go_sem, *]
  walk_nrm;apply ir _ iP iP (by k_ne)
  ·intro w;go_simp;(try w_num);exact iP
  ·intro w;simp[go_sem, *]
  walk_nrm;apply ir _ iP iP (by k_ne)
  ·intro w;go_simp;(try w_num);exact iP
  ·intro w;simp[go_sem, *]
  walk_nrm;apply ir _ iP iP (by k_ne)
  ·intro w;go_simp;(try w_num);exact iP
  ·intro w;simp[go_sem, *]
  walk_nrm
  q_c zt
  q_c rp
  q_reg
  apply ir _ iP iP (by k_ne)
  ·intro w;go_simp;(try w_num);exact iP
  ·intro w;simp[go_sem, *]
  walk_nrm;apply ir _ iP iP (by k_ne)
  ·intro w;go_simp;(try w_num);exact iP
  ·intro w;simp[go_sem, *]
  walk_nrm;apply ir _ iP iP (by k_ne)
  ·intro w;go_simp;(try w_num);exact iP
  ·intro w;simp[go_sem, *]
  walk_nrm;apply ir _ iP iP (by k_ne)
  ·intro w;go_simp;(try w_num);exact iP
  ·intro w;simp[go_sem, *]
  walk_nrm
  q_c zt
  q_c rp
  q_c rp
  q_reg
  apply ir _ iP iP (by k_ne)
  ·intro w;go_simp;(try w_num);exact iP
  ·intro w;simp[go_sem, *]
  walk_nrm;apply ir _ iP iP (by k_ne)
  ·intro w;go_simp;(try w_num);exact iP
  ·intro w;simp[go_sem, *]
  walk_nrm;apply ir _ iP iP (by k_ne)
  ·intro w;go_simp;(try w_num);exact iP
  ·intro w;simp[go_sem, *]
  walk_nrm;apply ir _ iP iP (by k_ne)
  ·intro w;go_simp;(try w_num);exact iP
  ·intro w;simp[go_sem, *]
  walk_nrm;apply ir _ iP iP (by k_ne)
  ·intro w;go_simp;(try w_num);exact iP
  ·intro w;simp[go_sem, *]
  walk_nrm
  q_skip
  q_skip
  q_skip
  q_skip
  apply ir _ iP iP (by k_ne)
  ·intro w;go_simp;(try w_num);exact iP
  ·intro w;simp[go_sem, *]
  walk_nrm
  q_c zt
  q_cond o9
  q_c kq
  q_c rp
  q_c rp
  q_reg
  apply ir _ iP iP (by k_ne)
  ·intro w;go_simp;(try w_num);exact iP
  ·intro w;simp[go_sem, *]
  walk_nrm;apply ir _ iP iP (by k_ne)
  ·intro w;go_simp;(try w_num);exact iP
  ·intro w;simp[go_sem, *]
  walk_nrm
  q_c zt
  q_cond o9
  q_c kq
  q_c rp
  q_c rp
  q_reg
  apply ir _ iP iP (by k_ne)
  ·intro w;go_simp;(try w_num);exact iP
  ·intro w;simp[go_sem, *]
  walk_nrm;apply ir _ iP iP (by k_ne)
  ·intro w;go_simp;(try w_num);exact iP
  ·intro w;simp[go_sem, *]
  walk_nrm;apply ir _ iP iP (by k_ne)
  ·intro w;go_simp;(try w_num);exact iP
  ·intro w;simp[go_sem, *]
  walk_nrm
  q_skip
  q_skip
  apply ir _ iP iP (by k_ne)
  ·intro w;go_simp;(try w_num);exact iP
  ·intro w;simp[go_sem, *]
  walk_nrm;apply ir _ iP iP (by k_ne)
  ·intro w;go_simp;(try w_num);exact iP
  ·intro w;simp[go_sem, *]
  walk_nrm
  q_skip
  q_skip
  q_skip
  q_skip
  apply ir _ iP iP (by k_ne)
  ·intro w;go_simp;(try w_num);exact iP
  ·intro w;simp[go_sem, *]
  walk_nrm
  q_c zt
  q_cond o9
  q_c kq
  q_c rp
  q_c rp
  q_reg
  apply ir _ iP iP (by k_ne)
  ·intro w;go_simp;(try w_num);exact iP
  ·intro w;simp[go_sem, *]
  walk_nrm;apply ir _ iP iP (by k_ne)
  ·intro w;go_simp;(try w_num);exact iP
  ·intro w;simp[go_sem, *]
  walk_nrm;apply ir _ iP iP (by k_ne)
  ·intro w;go_simp;(try w_num);exact iP
  ·intro w;simp[go_sem, *]
  walk_nrm;apply ir _ iP iP (by k_ne)
  ·intro w;go_simp;(try w_num);exact iP
  ·intro w;simp[go_sem, *]
  walk_nrm;apply ir _ iP iP (by k_ne)
  ·intro w;go_simp;(try w_num);exact iP
  ·intro w;simp[go_sem, *]
  walk_nrm;apply ir _ iP iP (by k_ne)
  ·intro w;go_simp;(try w_num);exact iP
  ·intro w;simp[go_sem, *]
  walk_nrm
  q_c zt
  q_cond tu
  q_c o0
  q_enable
  q_leave0 H.1
  exact V
 ·refine⟨_,(stepG_add_atomic iP iP (by k_ne) iP H.23 (x_addU64_n L) (x_addU64_b L) (x_addU64_x L) .u64 (x_addU64_f L) iP iP (C W).1 (C W).2.1).trans (by rw[S];rfl),200,?_⟩;have b:E3 D.ty D.L.Wg (K.setCell (Hp D.L.Wg) (pq .u64 1)):=⟨_,_,Lo W 1⟩;walk_nrm;clear p W
  u_op Az b
  u_c zt Az b
  u_c o0 Az b
  u_leave1 H.11 Az b
  u_op Az b
  u_c zt Az b
  u_c rp Az b
  u_c rp Az b
  u_reg Az b
  u_op Az b
  u_op Az b
  u_op Az b
  u_op Az b
  u_skip Az b
  u_skip Az b
  u_op Az b
  u_c zt Az b
  u_cond o9 Az b
  u_c kq Az b
  u_c rp Az b
  u_reg Az b
  u_op Az b
  u_op Az b
  u_op Az b
  u_op Az b
  u_c zt Az b
  u_c rp Az b
  u_reg Az b
  u_op Az b
  u_op Az b
  u_op Az b
  u_op Az b
  u_c zt Az b
  u_c rp Az b
  u_c rp Az b
  u_reg Az b
  u_op Az b
  u_op Az b
  u_op Az b
  u_op Az b
  u_op Az b
  u_skip Az b
  u_skip Az b
  u_skip Az b
  u_skip Az b
  u_op Az b
  u_c zt Az b
  u_cond o9 Az b
  u_c kq Az b
  u_c rp Az b
  u_c rp Az b
  u_reg Az b
  u_op Az b
  u_op Az b
  u_c zt Az b
  u_cond o9 Az b
  u_c kq Az b
  u_c rp Az b
  u_c rp Az b
  u_reg Az b
  u_op Az b
  u_op Az b
  u_op Az b
  u_op Az b
  u_op Az b
  u_op Az b
  u_op Az b
  u_skip Az b
  u_skip Az b
  u_skip Az b
  u_skip Az b
  u_op Az b
  u_c zt Az b
  u_cond o9 Az b
  u_c kq Az b
  u_c rp Az b
  u_c rp Az b
  u_reg Az b
  u_op Az b
  u_op Az b
  u_op Az b
  u_op Az b
  u_op Az b
  u_op Az b
  u_c zt Az b
  u_cond o9 Az b
  u_c kq Az b
  u_c rp Az b
  u_c rp Az b
  u_reg Az b
  u_op Az b
  u_op Az b
  u_op Az b
  u_call H.13 (nm_uLoad L) uLoadFn Az b
  u_c rp Az b
  u_reg Az b
  u_op Az b
  u_c zt Az b
  u_c rp Az b
  u_reg Az b
  u_op Az b
  u_op Az b
  u_op Az b
  refine mh (λd c=>?_);replace b:=c b;clear c;refine⟨iP,λW=>?_⟩;refine⟨_,stepG_load_atomic iP iP (by k_ne) iP H.24 (x_loadU64_n L) (x_loadU64_b L) (x_loadU64_x L) .u64 (x_loadU64_f L) iP (C W).1,100,?_⟩;clear W;walk_nrm
  u_op Az b
  u_c zt Az b
  u_c o0 Az b
  u_leave1 H.13 Az b
  u_op Az b
  u_op Az b
  u_c zt Az b
  u_cond o9 Az b
  u_c kq Az b
  u_c rp Az b
  u_reg Az b
  u_op Az b
  u_op Az b
  u_op Az b
  u_call H.14 (nm_uStore L) uStoreFn Az b
  u_reg Az b
  u_op Az b
  u_op Az b
  u_op Az b
  u_op Az b
  refine mh (λd c=>?_);replace b:=c b;clear c;refine⟨iP,fun⟨st,W⟩=>?_⟩;refine⟨_,stepG_store_atomic iP iP (by k_ne) iP H.25 (x_storeU64_n L) (x_storeU64_b L) (x_storeU64_x L) (x_storeU64_f L) iP iP (C W).1 (C W).2.1,100,?_⟩;replace b:E3 D.ty D.L.Wg (d.setCell (Hp D.L.Wg) (pq .u64 0)):=⟨_,_,Lo W 0⟩;clear W;walk_nrm
  u_c zt Az b
  u_c gg Az b
  u_leave0 H.14 Az b
  u_c zt Az b
  u_c rp Az b
  u_c rp Az b
  u_reg Az b
  u_op Az b
  u_c zt Az b
  u_cond o9 Az b
  u_c kq Az b
  u_c stepG_block Az b
  u_c stepG_loop Az b
  u_c rp Az b
  u_c rp Az b
  u_reg Az b
  u_op Az b
  u_op Az b
  u_c zt Az b
  u_cond tu Az b
  u_c kq Az b
  u_c rp Az b
  u_c stepG_block Az b
  u_reg Az b
  u_op Az b
  u_op Az b
  u_op Az b
  refine mh (λd c=>?_);clear c b;refine⟨iP,fun⟨st,W⟩=>?_⟩;refine⟨_,(stepG_semrelease iP iP (by k_ne) iP H.16 (x_semrelease_n L) (x_semrelease_b L) (x_semrelease_x L) (x_semrelease_f L) Af5 (C W).2.2.1 (C W).2.2.2).trans Ac,mayWake_entry rfl iP H.16 (x_semrelease_b L),a+19,?_⟩;clear W;walk_nrm
  q_c zt
  q_c stepG_inBlock
  q_reg
  apply ir _ iP iP (by k_ne)
  ·intro w;go_simp;(try w_num);exact iP
  ·intro w;simp[go_sem, *]
  walk_nrm;apply ir _ iP iP (by k_ne)
  ·intro w;go_simp;(try w_num);exact iP
  ·intro w;simp[go_sem, *]
  walk_nrm;apply ir _ iP iP (by k_ne)
  ·intro w;go_simp;(try w_num);exact iP
  ·intro w;simp[go_sem, *]
  walk_nrm
  q_c zt
  q_c stepG_inLoop
  q_c rp
  q_c rp
  q_reg
  apply ir _ iP iP (by k_ne)
  ·intro w;go_simp;(try w_num);exact iP
  ·intro w;simp[go_sem, *]
  walk_nrm;apply ir _ iP iP (by k_ne)
  ·intro w;go_simp;(try w_num);exact iP
  ·intro w;simp[go_sem, *]
  walk_nrm
  q_c zt
  q_cond o9
  q_exit
  q_c gg
  q_enable
  q_leave0 H.1
  exact V
def An2(H:WgLib D.P L)(v:D.ty=L.30){c a}(t:c.mode=.returning)(V:QuitsD D.P a 0 (G c cs))(w)(p:E3 D.ty D.L.Wg w):gi D.P o9 D.RW D0 (BR0 D.P D.ty D.L.Wg) 103 (G ((baseD L.done).at ⟨#[iI D.L.Wg,uw,uw,uw],[]⟩ [.code (KW L)]) (c::cs)) w:=by
 lib_facts
 have y:=@Agk D L H v;simp only[KW,Re,doneFn,addFn,bJ,dF,dQ,eN,dZ,bR,cJ]at y⊢
 u_reg Az p
 u_op Az p
 u_in Az p
 refine goes_call iP iP (by k_ne) iP H.1 (nm_add L) iP ⟨by u_nil,?_⟩
 walk_nrmf addFn
 refine @y _ _ _ _ _ _ _ (a+3) ?_ _ p
 q_c zt
 q_c gg
 exact QuitsD.leaveD iP iP H.2 iP t V
end Go.Pair
namespace Go.Pair
variable {E T:Tree}{K:Func}{L X:Array Event}{Q:hZ}{cs z:List Frame}{l:Loc}{n u:Ren}
open Go Go.Conc
def Rl{e}{R:qg->qg->Prop}{D:qg->qg->Array Event->Prop}{f:o5->qg->Prop}{b:Frame}{a k c}{h:iG}{o n}(O:c[i]?=ni o)(W:yg o (gu c a.tmps)=tu)(E:b.kind≠.early)(j:∀K,R w K->∀F:Act->qg->Prop,(∀l B,D K B (listed P b.fn a o K)/\gi P e R D f n (G (b.at l (.inRegion c h::k)) cs) B->F l B)->uponK o a F ((execOp a.eval o).run P K)):gi P e R D f (n+1) (G (b.at a (.inRegion c (i::h)::k)) cs) w:=by
 refine Goes.step iP λK U=>goes_oper O W E ?_;have:=j K U _ λ_ _ x=>x;revert this;cases(execOp a.eval o).run P K with
 |ok x B=>cases x<;>first|exact fun⟨d,g⟩=>⟨d,g⟩|exact id
 |halt _ _=>exact id
def Ds{a}{R:qg->qg->Prop}{D:qg->qg->Array Event->Prop}{b:o5->qg->Prop}(T:Terms R D){n c}(Y:g.status=.running)(s:∀w,stepG P a g w=.go c w #[])(h:gi P a R D b n c w):=Goes.step Y λK U=>by rw[s];exact⟨T.idle _,h.rely T.trans U⟩
def Xc{b:Frame}{a k g}{c:iG}{o}(O:g[i]?=ni o)(v):jy (core (G (b.at a (.inRegion g (i::c)::k)) cs)) v=G (b.at (a.put o.dst v) (.inRegion g c::k)) cs:=by
 rw[core_G,served_G,O]
 rfl
section
variable {k:Bool} {b:Frame} {a:Act} {j:List wx}
def Oo(t ty:mi)(c:Nat):Deferred:={ target:=.builtin .close #[t] ty #[o9],args:=#[.chan (ni c)] }
def Vq{g}{d:iG}{x t c}(O:g[i]?=ni o)(W:yg o (gu g a.tmps)=tu)(E:b.kind≠.early)(T:o.op=.defer { callee:=.builtin .close,args:=#[.tmp x],argTypes:=#[t] })(Z:a.eval (.tmp x)=.chan (ni c)):stepG P k (G (b.at a (.inRegion g (i::d)::j)) cs) e=.go (G (b.at (Act.put ⟨a.tmps,Oo t o.type c::a.defers⟩ o.dst uw) (.inRegion g d::j)) cs) e #[]:=by
 have Y:(execOp a.eval o).run P e=.ok (.defer (Oo t o.type c)) e:=by
  unfold execOp;simp[T,resolve,Oo,Z]
 have N:(execOp a.eval o).events P e #[]=#[]:=by
  unfold execOp;simp[T,resolve]
 have Q:(b.at ⟨a.tmps,Oo t o.type c::a.defers⟩ (.inRegion g (i::d)::j)).finish uw=b.at (Act.put ⟨a.tmps,Oo t o.type c::a.defers⟩ o.dst uw) (.inRegion g d::j):=by rw[Frame.finish_at,O];rfl
 rw[stepG_oper O W,←Q];simp[stepG.apply,Y,N,G,Frame.at,(by simpa using E),GStep.after,yo]
def Ua{f R t I c d}(y:a.defers=Oo t I c::R)(g:(P.funcs[b.fn]?).any (·.norace)=o9)(M:e.1[c]?=ni (.chan 0 #[] o9 s r d)):stepG P k (G { b.at a f with mode:=.returning } cs) e=.go (G { b.at ⟨a.tmps,R⟩ f with mode:=.returning } cs) (e.shut c s r d) #[⟨.obj c,o9,tu⟩,⟨.obj c,tu,tu⟩]:=by
 have Y:(pj (.builtin .close #[t] I #[o9]) #[.chan (ni c)]).run P e=.ok (.value (my #[])) (e.shut c s r d):=by
  simp only[pj,builtin,Sem.run_bind,run_close_open #[t] I M]
  rfl
 have N:(pj (.builtin .close #[t] I #[o9]) #[.chan (ni c)]).events P e #[]=#[⟨.obj c,o9,tu⟩,⟨.obj c,tu,tu⟩]:=by
  simp only[pj,builtin,Sem.events_bind,events_close_open #[t] I M,run_close_open #[t] I M]
  rfl
 have K:seen P b.fn #[⟨.obj c,o9,tu⟩,⟨.obj c,tu,tu⟩]=#[⟨.obj c,o9,tu⟩,⟨.obj c,tu,tu⟩]:=seen_eq g Ai;simp[G,stepG,unwind,callDeferred,Frame.at,y,Oo,Y,N,GStep.after,K]
end
section
variable {J:hZ} {a:Act} {S:Env} {ops:Array km} {l:iG} {b:Frame} {k:List wx} {x y c:Code} {d:Nat}
def EV.seqC(h:M P main J N (G (b.at a (.code x::.code y::k)) z) w):M P main J N (G (b.at a (.code (.seq x y)::k)) z) w:=M.ctlA h λn cs w _=>rp
def EV.skipC(h:M P main J N (G (b.at a k) z) w):M P main J N (G (b.at a (.code .skip::k)) z) w:=M.ctlA h λn cs w _=>kq
def EV.blockC(h:M P main J N (G (b.at a (.code x::.inBlock d::k)) z) w):M P main J N (G (b.at a (.code (.block d x)::k)) z) w:=M.ctlA h λn cs w _=>stepG_block
def EV.inBlockC(h:M P main J N (G (b.at a k) z) w):M P main J N (G (b.at a (.inBlock d::k)) z) w:=M.ctlA h λn cs w _=>stepG_inBlock
def EV.loopC(h:M P main J N (G (b.at a (.code c::.inLoop c::k)) z) w):M P main J N (G (b.at a (.code (.loop c)::k)) z) w:=M.ctlA h λn cs w _=>stepG_loop
def EV.inLoopC(h:M P main J N (G (b.at a (.code c::.inLoop c::k)) z) w):M P main J N (G (b.at a (.inLoop c::k)) z) w:=M.ctlA h λn cs w _=>stepG_inLoop
def EV.condC{t q}(f:a.eval q=.bool t)(h:M P main J N (G (b.at a (.code (if t then x else y)::k)) z) w)(E:Eg P.globals.size q=true:=by rfl):M P main J N (G (b.at a (.code (.cond q x y)::k)) z) w:=
 M.ctlA h λn cs w p=>stepG_cond (by rw[Hl p a q E,f];simp)
def EV.regionC(h:M P main J N (G (b.at a (.inRegion ops (List.range ops.size)::k)) z) w):M P main J N (G (b.at a (.code (.region d ops o9)::k)) z) w:=M.ctlA h λn cs w _=>stepG_region
def EV.regionEnd(h:M P main J N (G (b.at a k) z) w):M P main J N (G (b.at a (.inRegion ops []::k)) z) w:=M.ctlA h λn cs w _=>zt
def EV.piece{Q:Exit->Act->qg->Prop}(D:b.fn=fn)(E:b.kind=.normal)(h:Hj P main J N fn c Q a w)(f:∀e l B,Q e l B->Vy P main J N b k z e l B):=h b k z D E f
def EV.opPure{x}(E:b.kind=.normal)(O:ops[i]?=ni o)(W:yg o (gu ops a.tmps)=tu)(V:Nx P S fn o)(j:S.reg fn a.tmps)(Y:∀w,(execOp a.eval o).run P w=.ok (.value x) w)(c:∀w,(execOp a.eval o).events P w #[]=#[])(h:M P main J N (G (b.at (a.put o.dst x) (.inRegion ops l::k)) z) w):=
 M.opRob E O W λd=>⟨x,w.at d,R6 V j Y c,M.at h d⟩
def EV.opEv{x v'}(E:b.kind=.normal)(O:ops[i]?=ni o)(W:yg o (gu ops a.tmps)=tu)(V:Nx P S fn o)(j:S.reg fn a.tmps)(Y:∀d,Yields P (execOp a.eval o) (w.at d) x (v'.at d))(c:∀d,∀e∈(execOp a.eval o).events P (w.at d) #[],Fb J e)(h:M P main J N (G (b.at (a.put o.dst x) (.inRegion ops l::k)) z) v'):=
 M.opRob E O W λd=>⟨x,v'.at d,Qy V j (Y d) (c d),M.at h d⟩
def EV.opClo{f q}{cap:iB}{args ats}{X:iB}{d}(E:b.kind=.normal)(O:ops[i]?=ni o)(W:yg o (gu ops a.tmps)=tu)(T:o.op=.call { callee:=.value q,args,argTypes:=ats })(Z:a.eval q=.func (.func f) #[] cap)(Y:Eg P.globals.size q=tu)(S:args.all (Eg P.globals.size)=tu)(e:args.map a.eval++cap=X)(H:Bg P main J N f X w d)(F:∀v B,d v B->EV P main J N (G (b.at (a.put o.dst v) (.inRegion ops l::k)) z) B):EV P main J N (G (b.at a (.inRegion ops (i::l)::k)) z) w:=by
 subst e;have g:=H;obtain⟨m,c,C,s,t,_⟩:=g;have j:m.body.isNone=o9:=by rw[t];rfl
 have Q:∀(a:Act)cap,a.eval q=.func (.func f) #[] cap->execOp a.eval o=jl f (args.map a.eval++cap):=λa cap Z=>by
  unfold execOp;rw[T]
  show(uj (a.eval q) (args.map a.eval) >>= λr=>pj r.target r.args)=_;exact Ius
 have M:∀h:Array w8,∀w:qg,(jl f h).runT P w #[]=(.ok (.enter f h) w,#[]):=λh w=>by
  unfold jl
  show(match P.funcs[f]? with|none=>_|some fn=>_:Sem Next).runT P w #[]=_;rw[C];dsimp only;rw[s,j]
  rfl
 have u:∀n,n.Fix P.globals.size->(Bw n a).eval q=.func (.func f) #[] (cap.map (A1 n)):=λn p=>by rw[Hl p a q Y,Z];simp[Mp]
 refine EV.opEnter E O W (λn w p=>?_) (λn w p=>?_) H F
 ·rw[Q _ _ (u n p),(λn p=>Jm (λy U=>Hl p a y U) args S) n p,dD];exact(Lk (M _ w)).1
 simp_all
def Adz{g}{j:pz}{Q:Exit->Act->qg->Prop}{f x}{cap:iB}{PostF}(O:g[i]?=ni o)(a1:yg o (gu g a.tmps)=tu)(T:o.op=.call { callee:=.value x,args,argTypes:=m })(Z:a.eval x=.func (.func f) #[] cap)(Y:Eg P.globals.size x=tu)(S:args.all (Eg P.globals.size)=tu)(c:Bg P main J N f (args.map a.eval++cap) e PostF)(F:∀v B,PostF v B->opsV P main J N j g l Q (a.put o.dst v) B):opsV P main J N j g (i::l) Q a e:=
 λb k z D E M=>EV.opClo E O a1 T Z Y S iP c λv B q=>F v B q b k z D E M
def EV.leave{f r q}(y:a.defers = [])(I:P.funcs[b.fn]?=ni K)(E:b.kind=.normal)(g:∀w,(qe K a.tmps).run P w=.ok r w)(i:∀w,(qe K a.tmps).events P w #[]=#[])(h:M P main J N (G (q.finish r) z) w):M P main J N (G { b.at a f with mode:=.returning } (q::z)) w:=
 M.step iP λj d=>⟨_,w.at d,stepR_ret iP y E I j (g _) (λe c=>by have c:e∈(qe K a.tmps).events P _ #[]:=c;grind),h.at d⟩
def EV.endC(h:M P main J N (G { b.at a [] with mode:=.returning } z) w):M P main J N (G (b.at a []) z) w:=M.ctl h rfl rfl λn H _=>gg (a:=Bw n a)
end
section
variable {J:hZ} {a:Act} {H:hY}
def Al3(c:∀n:Ren,n.Fix P.globals.size->Rf P n (Ku n) (execOp a.eval o) (Fv a o n))(b:Yields P (execOp a.eval o) v x U)(N:∀e∈(execOp a.eval o).events P v #[],Fb J e):GL P J (Fv a o) v x U:=by
 have ⟨l,F⟩:=Sr;have f:∃y,(y=.value x∨(y=.skip/\x=uw))/\(execOp a.eval o).run P v=.ok y U:=by
  rcases b with b|⟨b,rfl⟩
  ·grind
  grind
 have ⟨y,Z,Y⟩:=f;refine⟨λQ=>((c l (F _)).mono v y U Q Y).1,λQ=>?_,λQ n u w p R s=>?_⟩
 ·have ⟨_,d,k⟩:=(c l (F _)).mono v y U Q Y
  grind
 ·have ⟨_,_,k⟩:=(c l (F _)).mono v y U Q Y;have ⟨B,C,g,T,q⟩:=(c n p).sim J u v w s Q N y U Y R;exact Tqd
def OE(t x):Dc H P n (A1 n) (Instr.makeChan t x) (Instr.makeChan t (A1 n x)):=by
 refine Rf.bind (Rf.asInt x) λm=>?_;refine Rf.bind (Rf.underlying t) λu=>?_;simp only[id];cases u with
 |chan a e=>
  refine Rf.typeInfoIn e λi V=>?_;split
  ·exact Rf.bind (f:=λx=>x) Rf.rt λ_=>by
    refine Bf1 λh e=>?_;rw[e]at h;exact Rf.bind h λ_=>Rf.pure Ad
  ·refine Bf1 λh e=>?_;rw[e]at h;exact Rf.bind h λ_=>Rf.pure Ad
 |_=>exact Rf.never (Cz iP trivial)
end
section
variable {J Own:hZ}
def LikeO.row{i}{c:iB}{e a I}(h:LikeO n J i (jf c e a) I)(M:c≠#[])(W:∀j,¬J (.cell (iK i j))):I=jf (c.map (A1 n)) e a:=by
 rcases h with h|⟨Q,B,S,R,C,b,T,q⟩|⟨_,h,_⟩|⟨B,S,R,C,_⟩
 ·exact h
 ·cases C;rw[b]
  congr 1
  refine bV λj=>?_
  grind
 ·exact absurd iP (h _ _ _)
 grind
def Dq.row(b:Dq P n J Own h v w){i}{c:iB}{e a}(Y:v.1[i]?=ni (jf c e a))(M:c≠#[])(W:∀j,¬J (.cell (iK i j))):w.1[sh n i]?=ni (jf (c.map (A1 n)) e a):=by
 have ⟨I,C,d⟩:=(b.sm 0).4 i _ Y;rw[C,d.row M W]
def Dq.cellW(a:Dq P n J Own h v w)(Z:v.cell? (iK i j)=ni x)(W:¬J (.cell (iK i j))):w.cell? ⟨sh n i,j,su⟩=ni (A1 n x):=by
 have Y:=Jw Z;have F:v.1[i]?=ni v.1[i]:=aO Y;obtain⟨I,C,b⟩:=(a.sm 0).4 i _ F;cases O:v.1[i] with
 |cells d e l=>
  rw[O]at b F;have H:d[j]?=ni x:=by simpa[sw,F] using Z
  rcases b with a|⟨Q,B,S,R,c,k,N,f⟩|⟨_,a,_⟩|⟨B,S,R,c,_⟩
  ·rw[a]at C;simp only[Dt]at C;rw[Cg C j,aN,H];rfl
  ·cases c;rw[k]at C;rw[Cg C j,f j W,H];rfl
  ·exact absurd iP (a _ _ _)
  grind
 |_=>rw[O]at F;simp[sw,F]at Z
def Dq.setCell(a:Dq P n J Own h v w){y x}(M:v.cell? (iK i j)=ni y)(Z:A1 (.up v.1.size) x=x)(G:Bn (.up v.1.size) R=R):Dq P n J Own R (v.setCell (iK i j) x) (w.setCell ⟨sh n i,j,su⟩ (A1 n x)):=by
 have N:(v.setCell (iK i j) x).1.size=iS v.1:=size_setCell _ _ _;refine⟨λt=>(a.sm t).setCell M x,a.fix,by rw[N];exact a.glob,⟨λk o E=>?_,by rwa[N]⟩,λl K z=>a.own l ?_ z⟩
 ·rw[N];rw[heap_setCell]at E;split at E
  ·rename_i u;subst u;cases D:v.1[k]? with
   |none=>grind
   |some p=>
    have Q:=a.wf.mem _ _ D;rw[D,aI]at E;cases p with
    |cells e f C=>
     obtain rfl:=aA E;simp only[eY,aR,bQ];rcases Q with q|⟨A,B,S,c,b,s,F,W⟩|⟨_,q,_⟩|⟨B,S,c,b,s⟩
     ·apply p8;simp only[Dt]at q⊢;injection q with q _ _
      congr 1
      grind
     ·cases b;cases s;refine n9 (p8 ⟨_,_,_,_,iP,iP,iP,λm L=>?_⟩)
      grind
     ·exact absurd iP (q _ _ _)
     ·injection b with b _ _;subst b;exact n9 (n9 (n9 ⟨_,_,_,Ad,iP⟩))
    |_=>
     obtain rfl:=aA E;exact Q
  ·exact a.wf.mem k o E
 ·rcases Tz (Gf v (iK i j) x tu) K with q|q
  ·exact q
  ·exfalso;cases l with
   |cell d=>
    obtain⟨p,Q⟩:=K;have:=Jw Q;rw[N]at this;have:iS v.1<=d.block:=q;omega
   |obj r=>
    obtain⟨p,Q,_⟩:=K;have:=(aH.1 Q).1;rw[N]at this;have:iS v.1<=r:=q;omega
   |_=>exact K.elim
def Dq.object(f:Dq P n J Own h v w){i O o}(V:v.1[i]?=ni O)(S:Ci O)(z:Ci o)(Y:∀m,Dt m o=o)(s:w.1[sh n i]?=ni o):Dq P n (λl=>J l/\l≠.obj i) (λl=>Own l∨l=.obj (sh n i)) h { v with heap:=v.1.setIfInBounds i o } w:=by
 have D:∀j q,({ v with heap:=v.1.setIfInBounds i o }:qg).1[j]?=ni q->(j=i/\q=o)∨(j≠i/\v.1[j]?=ni q):=λj q k=>by
  grind
 have r:∀m(j:Nat)q I,j≠i->LikeO m J j q I->LikeO m (λl=>J l/\l≠.obj i) j q I:=λm j q I k K=>by
  rcases K with C|⟨c,B,E,H,C,d,T,A⟩|⟨F,C,d⟩|C
  ·exact p8 C
  ·exact n9 (p8 ⟨c,B,E,H,C,d,T,λy U=>A y λW=>U ⟨W,Ad⟩⟩)
  ·exact n9 (n9 (p8 ⟨⟨⟨F.1,λe=>k (by injection e)⟩,F.2⟩,C,d⟩))
  ·exact n9 (n9 (n9 C))
 have N:({ v with heap:=v.1.setIfInBounds i o }:qg).1.size=iS v.1:=Ad;refine f.recast N (aB _) (f.sm 0).tape (f.sm 0).drawn (f.sm 0).os (f.sm 0).output iP (λj q k=>?_) ⟨λj q k=>?_,by rw[N];exact f.wf.2⟩ λl K k=>?_
 ·rcases D j q k with⟨rfl,rfl⟩|⟨C,d⟩
  ·exact⟨q,s,p8 (Y n).symm⟩
  ·obtain⟨g,T,A⟩:=(f.sm 0).4 _ _ d;exact⟨g,T,r n j q g C A⟩
 ·rw[N];rcases D j q k with⟨rfl,rfl⟩|⟨C,d⟩
  ·exact p8 (Y _).symm
  ·exact r _ j q q C (f.wf.mem j q d)
 ·cases l with
  |cell a=>
   refine p8 (f.own (.cell a) ?_ λW=>k ⟨W,Ad⟩);obtain⟨x,Z⟩:=K;refine⟨x,?_⟩;by_cases R:a.block=i
   ·exfalso;unfold sw at Z;rw[show({ v with heap:=v.1.setIfInBounds i o }:qg).1[a.block]?=ni o by rw[R];exact aQ ((aH.1 V).1)]at Z;cases o with
    |cells c e fz=>exact z _ _ _ iP
    |_=>simp at Z
   ·unfold sw at Z⊢
    rwa[show({ v with heap:=v.1.setIfInBounds i o }:qg).1[a.block]?=v.1[a.block]? from aE (dN R)]at Z
  |obj b=>
   by_cases p:b=i
   ·exact n9 (by rw[p];rfl)
   ·refine p8 (f.own (.obj b) ?_ λW=>k ⟨W,λe=>p (by injection e)⟩);obtain⟨q,t,M⟩:=K;rcases D b q t with⟨C,_⟩|⟨_,d⟩
    ·exact absurd C p
    ·exact⟨q,d,M⟩
  |_=>exact K.elim
end
def ENP(P:vg)(Post:E2)(J:hZ)(g:o5)(v:qg):Prop:=Plain v->EN P Post J g v
def XW{a J}{b:o5->qg->Prop}:∀{T} {g} {v},FwT P a J (λg v=>Plain v->b g v) T g v->FwT P a J b T g v:=by
 intro T
 induction T with
 |leaf=>exact λ{g v} h=>⟨h.1,λd=>h.2 d h.1⟩
 |node f O=>exact λ{g v} h=>⟨h.1,h.2.1,λd=>let⟨R,U,C,c⟩:=h.2.2 d;⟨R,U,C,O d c⟩⟩
def EN.ofP{Y J}(Q:Plain v)(h:M P tu J (ENP P Y J) g v):=let⟨_,h⟩:=h Q;EN.ofT (XW h)
def Po(Bs:hY)(J0:hZ):Prop:=∀l,J0 l->∃a,l=.cell a/\Bs a.block
def JOr(J J0:hZ)(l:Loc):Prop:=J l∨J0 l
section
variable {k:Bool} {J m:hZ} {u O:qg}
def LikeO.out{o I}(F:Po c m)(V:¬c i)(h:LikeO n (JOr J m) i o I):LikeO n J i o I:=by
 rcases h with h|⟨a,B,e,d,C,b,T,q⟩|⟨⟨C|C,b⟩,T,q⟩|h
 ·exact p8 h
 ·refine n9 (p8 ⟨a,B,e,d,C,b,T,λj l=>q j ?_⟩);rintro(x|x)
  ·exact l x
  ·have ⟨f,S,L⟩:=F _ x;cases S;exact V L
 ·exact n9 (n9 (p8 ⟨⟨C,b⟩,T,q⟩))
 ·have ⟨f,S,_⟩:=F _ C;cases S
 ·exact n9 (n9 (n9 h))
def Sm.hideJ{t x}(F:Po c m)(h:Df c e u)(s:Sm n t (JOr J m) (Cb c e u) x):Sm n t J u x:=by
 have V:=s.hide h;refine⟨V.top,V.lt,V.out,λi o O=>?_,V.tape,V.drawn,V.os,V.output⟩;by_cases b:c i
 ·obtain⟨f,g,j,C,d⟩:=h.blank i b;obtain⟨I,G,K⟩:=V.4 i _ O;rw[d]at O;cases O;exact E90
 ·obtain⟨I,G,K⟩:=V.4 i o O;exact⟨I,G,K.out F b⟩
def Sm.monoJ{t U x}(W:∀l,J l->U l)(s:Sm n t J u x):Sm n t U u x:=⟨s.top,s.lt,s.out,λi o O=>let⟨I,C,d⟩:=s.4 i o O;⟨I,C,d.monoJ W⟩,s.tape,s.drawn,s.os,s.output⟩
def EO(F:Po c m)(h:Df c e u){a}(N:Ht u a)(l:Fb J a):Fb (JOr J m) a:=by
 rintro(x|x)
 ·exact l x
 ·have ⟨b,S,L⟩:=F _ x;exact absurd L ((Ks h N).1 b S)
def Hk.overJ(F:Po c m)(W:RowsIn c e)(d:Df c e u)(s:Hk P k J h u R O):Hk P k (JOr J m) h (Cb c e u) R (Cb c e O)/\Df c e O:=by
 have ⟨X,a,K⟩:=s.frame;have f:=d.frame a;refine⟨⟨s.run,Ij W f s.plain,⟨X,Tj d a,λb N=>⟨(Ks f (K b N).1).2.2,EO F f (K b N).1 (K b N).2⟩⟩,λn t x p g Z=>?_⟩,f⟩;rw[Bj]at g;have ⟨i,G,L,C,j,T,q,z⟩:=s.all n t x p g (Z.hideJ F d);exact⟨i,G,L,C,Z.show d f (j.monoJ λ_=>p8) T λb N=>(q b N).1,T,λb N=>⟨(Ks f (q b N).1).2.2,EO F f (q b N).1 (q b N).2⟩,z⟩
def Ajz(c:hY)(e:qg)(Stop:o5->qg->Prop)(h:o5)(u:qg):Prop:=Df c e u->Plain u->Stop h (Cb c e u)
def SH(h:Df c e u)(Q:Plain (Cb c e u)):Plain u:=λi o O=>by
 by_cases V:c i
 ·have ⟨a,b,d,_,J⟩:=h.blank i V;rw[J]at O;cases O;trivial
 ·exact Q i o (by rwa[By V])
def Fw.show{a:o5->qg->Prop}(F:Po c m)(W:RowsIn c e)(b:Df c e u)(I:Fw P k J (Ajz c e a) h u):Fw P k (JOr J m) a h (Cb c e u):=by
 obtain⟨T,I⟩:=I
 induction T generalizing h u with
 |leaf=>exact⟨.leaf,Ij W b I.1,λd=>I.2 d (b.at d) I.1⟩
 |node i O=>
  have ⟨Q,Y,I⟩:=I;refine Fw.step (Ij W b Q) Y λd=>?_;have ⟨R,U,C,f⟩:=I d;have ⟨g,q⟩:=C.overJ F W (b.at d);exact⟨R,Cb c e U,g,O d q f⟩
def EV.show{a:o5->qg->Prop}(F:Po c m)(W:RowsIn c e)(b:Df c e u)(I:M P k J (Ajz c e a) h u):M P k (JOr J m) a h (Cb c e u):=λQ=>Fw.show F W b (I (SH b Q))
