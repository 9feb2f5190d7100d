import Derived.Deep.DeepWitnessRowRef
import Derived.Lib.LaidIn
import Derived.Test.YtcbilgmfdgpomaaGreatDoorQ17
set_option linter.all false
set_option maxRecDepth 8000
open Go.Proofs.Tryz renaming prog → qz,f3 → zb
open Bool renaming false → o9,true → tu
open Go.Lib.laidMet renaming reads → vb
open Option renaming some → ni,none → su
open Go.Value renaming okWide → pd,int → pq,string → x7,slice → um,bool → vp
open Go renaming Value → w8,World → qg
open Go.Proofs.YtcbilgmfdgpomaaGreatDoor.Rows.OpenSpec renaming upto → vu
open Go.Frame renaming enter → ow
open Go.Proofs.Tryz
def Nro{p:Prop}(h:p:=by
 exact WideElems.Trod_stays Ab Ab (of_decide_eq_true Ab) V (λx Z=>same x (K x Z)) (λx Z=>by simpa using K x Z)):p:=h
namespace Go.Proofs.YtcbilgmfdgpomaaGreatDoor
open Go.ChangeShapes Go.WideShapes Go.ChangeAt Go.RowKit Go.Pair Go.Conc
def own:ownKnob prog.godebug=su:=Ab
noncomputable def EM(os:Os):qg:=
 let w0:=World.holding qz os ⟨#[],#[],[]⟩
 let put (h) (g) (cs:iB):Array Obj:=h.modify g fun
  | .cells _ t frozen=>.cells cs t frozen
  | o=>o
 let h0:=put w0.1 7 Gd
 let h1:=put h0 5 (Lib.firstTab.map λz=>Value.int .u8 z).toArray
 let h2:=put h1 6 ((List.range 16).flatMap λi=>[Value.int .u8 (Lib.accLo i),Value.int .u8 (Lib.accHi i)]).toArray
 let h3:=put h2 2 #[x7 ⟨#[]⟩,x7 ⟨#[40,116,98,56,56,52,41]⟩,x7 ⟨#[40,116,98,116,56,56,52,41]⟩]
 let h4:=put h3 0 #[x7 ⟨#[]⟩,x7 ⟨#[]⟩,x7 ⟨#[]⟩,x7 ⟨#[]⟩,x7 ⟨#[40,52,52,116,98,41]⟩,x7 ⟨#[40,52,52,116,98,116,41]⟩,x7 ⟨#[]⟩,x7 ⟨#[40,52,52,116,52,41]⟩,x7 ⟨#[40,52,52,116,52,41]⟩,x7 ⟨#[]⟩,x7 ⟨#[40,52,52,116,98,52,41]⟩,x7 ⟨#[40,52,52,116,98,52,41]⟩,x7 ⟨#[]⟩,x7 ⟨#[40,52,52,116,63,41]⟩,x7 ⟨#[40,52,52,116,63,41]⟩,x7 ⟨#[]⟩,x7 ⟨#[40,52,52,116,63,41]⟩,x7 ⟨#[40,52,52,116,63,41]⟩,x7 ⟨#[]⟩,x7 ⟨#[40,52,52,116,63,41]⟩,x7 ⟨#[40,52,52,116,63,41]⟩,x7 ⟨#[]⟩,x7 ⟨#[40,52,52,41]⟩,x7 ⟨#[40,52,52,41]⟩]
 let h5:=put h4 3 #[x7 ⟨#[]⟩,x7 ⟨#[]⟩,x7 ⟨#[]⟩,x7 ⟨#[]⟩,x7 ⟨#[40,52,56,52,116,41]⟩,x7 ⟨#[40,52,56,52,116,41]⟩,x7 ⟨#[]⟩,x7 ⟨#[40,52,56,52,41]⟩,x7 ⟨#[40,52,56,52,41]⟩,x7 ⟨#[]⟩,x7 ⟨#[40,52,56,52,40,56,56,52,52,41,41]⟩,x7 ⟨#[40,52,56,52,40,56,56,52,52,41,41]⟩,x7 ⟨#[]⟩,x7 ⟨#[40,52,56,52,98,40,56,56,52,52,41,41]⟩,x7 ⟨#[40,52,56,52,98,116,40,56,56,52,52,41,41]⟩,x7 ⟨#[]⟩,x7 ⟨#[40,52,56,52,40,56,56,52,52,41,41]⟩,x7 ⟨#[40,52,56,52,40,56,56,52,52,41,41]⟩,x7 ⟨#[]⟩,x7 ⟨#[40,52,56,52,91,116,93,41]⟩,x7 ⟨#[40,52,56,52,91,116,93,41]⟩,x7 ⟨#[]⟩,x7 ⟨#[40,52,56,52,41]⟩,x7 ⟨#[40,52,56,52,41]⟩]
 let h6:=put h5 4 #[um su 0 0,um (ni ⟨13,0,su⟩) 2 2,um (ni ⟨14,0,su⟩) 3 3,um (ni ⟨15,0,su⟩) 1 1]
 {w0 with heap:=((h6.push (.cells #[pq .i64 0,vp o9,pq .i64 1,pq .i64 1,vp tu,pq .i64 4] 288)).push (.cells #[pq .i64 0,vp o9,pq .i64 2,pq .i64 1,vp o9,pq .i64 2,pq .i64 1,vp tu,pq .i64 4] 288)).push (.cells #[pq .i64 0,vp o9,pq .i64 3] 288) }
section
variable {H:Type} {P:TypeId×w8->H}
def Z9{a C B f u}{s:OpenSpec}{F m b p d h q}(own:ownKnob C.prog.godebug=su)(o:B.Started)(T:C.prog.funcs[f]? = ni u)(x:∃(w:qg)(e:Tape)(i:Input),w.os=B/\(w.forCall e i).Shaped C.prog/\i.vars = []/\Input.okWide C.prog (w.forCall e i) .any w.heap.size f i /\
   s.preRow P C.prog u m b q (w.forCall e i).memory i.args/\a.holds C.prog (lone (ow C.prog f i.args .normal) [] (w.forCall e i)))(y:∀W z (c:iB) R r g,
   (∀(j:Nat) t v,u.params[j]? = ni t->c[j]? = ni v->pd C.prog W .any z t v)->DataW.Whole P C.prog u.params.toList s.vars b W c.toList R r g->(∀k,s.cond=ni k->k H (R++r)=tu)->laidMetH C.prog q W->W.ShapedOpen C.prog ->
   EA C.prog (λv J=>CH W J->(s.at F).post P C.prog u b p d h W c v J) (λ_=>False) (G (ow C.prog f c .normal) []) W) :
  ReturnsInLeavingWide a C B f .any (s.preRow P C.prog u m b q) ((s.at F).post P C.prog u b p d h):=by
 refine returnsInLeavingWide_of_good own o x λw e i _ A _ l L _=>?_;have ⟨_,_,_,O,E,_,_,_,_,I⟩:=l;obtain rfl:O=u:=aA (E.symm.trans T);have ⟨⟨Q,K⟩,a1⟩:=L;have ⟨R,r,g,U,a6,M⟩:=OpenSpec.pre_parts Q;obtain⟨N,S,a7,V,X,Y,n,D,v,rfl,Q,Z⟩:=(y _ w.heap.size i.args R r g I (DataW.Whole.of_heap  Ac U) M (K.of_heap  Ac) A).run;exact⟨N,S,_,V,X,Y,n,D,v,rfl,ChangeSpec.post_blind (Q.2 Q.1),Z⟩
end
def Ahl{W}(b:laidMet qz Rows.aloneUptoRow.laid W)(D:W.ShapedOpen qz):Laid W/\W.cell? ⟨4,0,su⟩=ni (um su 0 0)/\∀kind,kind=1∨kind=2∨kind=3->∃g,Pw W kind g (TT kind):=by
 have R:=vb b (.tail _ (.tail _ (.head _)));have B:=vb b (.tail _ (.tail _ (.tail _ (.head _))));have c:=vb b (.tail _ (.tail _ (.tail _ (.tail _ (.tail _ (.head _))))));obtain⟨⟨X,P⟩,⟨o,O⟩,d,a⟩:=BV c;obtain⟨m,L⟩:=Ali D;have V:=BP (vb b (.tail _ (.head _)));have I:8<=W.1.size:=by
  obtain⟨_,_,M⟩:=V;have:=ltOf M;omega
 refine⟨{ tabs:=DI (vb b (.tail _ (.tail _ (.tail _ (.tail _ (.tail _ (.tail _ (.head _)))))))) (vb b (.head _)) I,table:=V,ml:=⟨m,L⟩,rq1:=Ej R (i:=1) (j:=1) Aa Aa _ rfl rfl rfl,rq2:=Ej R (i:=2) (j:=1) Aa Aa _ rfl rfl rfl,rq3:=Ej R (i:=3) (j:=1) Aa Aa _ rfl rfl rfl,rq4:=Ej R (i:=4) (j:=1) Aa Aa _ rfl rfl rfl,rq5:=Ej R (i:=5) (j:=1) Aa Aa _ rfl rfl rfl,rq6:=Ej R (i:=6) (j:=1) Aa Aa _ rfl rfl rfl,rq7:=Ej R (i:=7) (j:=1) Aa Aa _ rfl rfl rfl,an1:=Er B (i:=1) (j:=1) Aa Aa _ rfl rfl rfl,an2:=Er B (i:=2) (j:=1) Aa Aa _ rfl rfl rfl,an3:=Er B (i:=3) (j:=1) Aa Aa _ rfl rfl rfl,an4:=Er B (i:=4) (j:=1) Aa Aa _ rfl rfl rfl,an5:=Er B (i:=5) (j:=1) Aa Aa _ rfl rfl rfl,an6:=Er B (i:=6) (j:=1) Aa Aa _ rfl rfl rfl,an7:=Er B (i:=7) (j:=1) Aa Aa _ rfl rfl rfl },BU c,λkind E=>?_⟩;rcases E with rfl|rfl|rfl
 ·exact⟨X,P⟩
 ·exact⟨o,O⟩
 ·exact⟨d,a⟩
def VI(W:qg)(gs:iG):List Nat:=gs.foldl Sf (List.range 8)
def Ahw(r:iG):∀l:List Nat,l.Nodup->(r.foldl Sf l).Nodup:=by
 induction r with
 | nil=>exact λl h=>h
 | cons g r O=>exact λl h=>O _ (Agj h)
def Aeg(r:iG):∀l(x:Nat),x∈l->x∈r.foldl Sf l:=by
 induction r with
 | nil=>grind
 | cons g r O=>exact λl x h=>O _ x (Abe h)
def Ahv(r:iG):∀l(i y:Nat),l[i]? = ni y->(r.foldl Sf l)[i]? = ni y:=by
 induction r with
 | nil=>grind
 | cons g r O=>exact λl i y h=>O _ i y (Agi h)
def Vd(r:iG):∀l(x:Nat),x∈r->x∈r.foldl Sf l:=by
 induction r with
 | nil=>grind
 | cons g r O=>
  intro l x h;rcases bG.1 h with rfl|h
  ·exact Aeg r _ _ Abd
  ·exact O _ x h
def Aef(r:iG):∀l(x:Nat),x∈r.foldl Sf l->x∈l∨x∈r:=by
 induction r with
 | nil=>grind
 | cons g r O=>
  intro l x h;rcases O _ x h with h|h
  ·rcases Abc h with h|rfl
   ·exact .inl h
   grind
  grind
def FM{W b t e a n c}(r:prog.underlying t=ni (.slice e))(h:pd qz W .any b t (um (ni a) n c)):∃cs S d,W.1[a.block]? = ni (.cells cs S d):=by
 unfold pd at h;unfold Cell.okWide at h;unfold Cell.ok at h;rw[r]at h;have ⟨_,_,_,_,row,f,s,_⟩:=h;unfold World.shape? at s
 grind
def Al6{W}(D:W.ShapedOpen qz)(V:Table W)(u:W.cell? ⟨4,0,su⟩=ni (um su 0 0))(R:∀kind,kind=1∨kind=2∨kind=3->∃v,Pw W kind v (TT kind))(r:iG)(w:∀x∈r,∃c t f,W.1[x]? = ni (.cells c t f)):∃l,Xj W l/\DS W l/\∀x∈r,x∈l:=by
 obtain⟨X,P⟩:=R 1 (.inl rfl);obtain⟨o,O⟩:=R 2 (.inr (.inl rfl));obtain⟨d,a⟩:=R 3 (.inr (.inr rfl));obtain⟨K,y,Q⟩:=P.ex;obtain⟨I,A,s⟩:=O.ex;obtain⟨H,n,U⟩:=a.ex;have F:=Q 0 _ rfl;have z:=s 0 _ rfl;have G:=U 0 _ rfl;have i:X∈VI W (X :: o :: d :: r):=Vd _ _ _ Ad;have g:o∈VI W (X :: o :: d :: r):=Vd _ _ _ Ad;have k:d∈VI W (X :: o :: d :: r):=Vd _ _ _ Ad;refine⟨VI W (X :: o :: d :: r),⟨Ahw _ _ List.nodup_range,λx Z=>?_,λm p=>Ahv _ _ _ _ (by simp[p]),λm c t f p M j x Z=>?_⟩,λkind E=>?_,λx Z=>Vd _ _ _ (by simp[Z])⟩
 ·rcases Aef _ _ _ Z with h|h
  ·obtain⟨c,t,f,C,_⟩:=EG D V (List.mem_range.1 h);exact⟨_,_,_,C⟩
  ·simp only[bG]at h;rcases h with rfl|rfl|rfl|h
   ·obtain⟨c,t,f,C,_⟩:=Uj F.1;exact⟨_,_,_,C⟩
   ·obtain⟨c,t,f,C,_⟩:=Uj z.1;exact⟨_,_,_,C⟩
   ·obtain⟨c,t,f,C,_⟩:=Uj G.1;exact⟨_,_,_,C⟩
   ·exact w x h
 ·obtain⟨B,L,S,C,J,T⟩:=EG D V p;rw[M]at C;cases C;by_cases q:m=4
  ·subst q;obtain⟨N,_⟩:=T rfl;have Y:j<4:=by rw[←N];exact(aH.1 Z).1
   have:j=0∨j=1∨j=2∨j=3:=Aa;rcases this with rfl|rfl|rfl|rfl
   ·rw[Ib M u]at Z;cases Z;exact .inr ⟨_,_,_,rfl,λb e=>BB⟩
   ·rw[Ib M y]at Z;cases Z;exact .inr ⟨_,_,_,rfl,λb e=>by cases e;exact i⟩
   ·rw[Ib M A]at Z;cases Z;exact .inr ⟨_,_,_,rfl,λb e=>by cases e;exact g⟩
   ·rw[Ib M n]at Z;cases Z;exact .inr ⟨_,_,_,rfl,λb e=>by cases e;exact k⟩
  ·exact .inl (J q j x Z)
 ·rcases E with rfl|rfl|rfl
  ·exact⟨X,i,(JQ D V (x:=(0,o9,1)) F.1 F.2.1 F.2.2),P⟩
  ·exact⟨o,g,(JQ D V (x:=(0,o9,2)) z.1 z.2.1 z.2.2),O⟩
  ·exact⟨d,k,(JQ D V (x:=(0,o9,3)) G.1 G.2.1 G.2.2),a⟩
set_option maxRecDepth 100000 in
def QH(H)(a:TypeId×Value->H)(W aa args R w ab)(I:∀(y:Nat) t v,Tryz.f3.params[y]? = some t->args[y]? = some v->Value.okWide Tryz.prog W .any aa t v)(z:DataW.Whole a Tryz.prog Tryz.f3.params.toList Rows.piecesSpec.vars false W args.toList R w ab)(E:Rows.uptoSmall H (R++w)=true)(hL:laidMetH Tryz.prog Rows.piecesUptoRow.laid W)(D:W.ShapedOpen Tryz.prog) :
  EA Tryz.prog (fun v J=>CH W J->Rows.piecesSpec.post a Tryz.prog Tryz.f3 false true false false W args v J) (fun _=>False) (G (Frame.enter Tryz.prog 3 args .normal) []) W:=by
 have hM:laidMet Tryz.prog Rows.piecesUptoRow.laid W:=hL
 have A:=z
 obtain⟨ad,bb,C,hV,rfl,bc,bd⟩:=z
 have F:DataW.TrodAll a Tryz.prog W 0 (fun _=>true) true Tryz.f3.params.toList args.toList R ad:=C
 rw [Tryz.params3] at F I
 obtain⟨M,bf,c,bg,N,q0,bh,rfl,rfl,U,r0⟩:=trodAll_cons F
 obtain⟨Y,bj,d1,bk,p1,q1,ae,rfl,rfl,h1,r1⟩:=trodAll_cons r0
 obtain⟨v2,bm,T,bn,r,q2,af,rfl,rfl,h2,r2⟩:=trodAll_cons r1
 obtain⟨rfl,rfl,rfl⟩:=trodAll_nil r2
 subst ae af
 obtain rfl:args=#[M,Y,v2]:=by cases args;simp_all
 obtain⟨rfl,rfl⟩:=trodVars_none hV
 have Ig:∀x∈N++(p1++(r ++ [])),x.block<W.heap.size:=fun x Z=>by simpa using A.lt x SR
 have ah:Rows.uptoBulk c+Rows.uptoBulk d1+Rows.uptoBulk T<=1048576:=by
  have h:Rows.uptoBulkAll ([c,d1,T] ++ [])<=1048576:=of_decide_eq_true E
  simp only [List.append_nil,Rows.uptoBulkAll] at h
  omega
 have ai:=U
 have aj:=h1
 have ak:=h2
 clear C
 have a1:=I 0 22 M rfl rfl
 have a6:=I 2 23 v2 rfl rfl
 obtain⟨g,j,sc,rfl⟩:=okWide_slice Tryz.underlying22 a1
 obtain⟨Q,k,lc,rfl⟩:=okWide_slice Tryz.underlying23 a6
 obtain⟨bo,al⟩:=U
 obtain⟨bq,an⟩:=h1
 obtain⟨br,ao⟩:=h2
 obtain⟨s,rfl⟩:=okWide_string Tryz.underlying9 (I 1 9 Y rfl rfl)
 obtain⟨s',e2,a7,_⟩:=DataW.trod_string Tryz.underlying9 an
 simp [Value.cells] at e2
 subst e2
 simp only [Prod.mk.injEq] at a7
 obtain⟨rfl,rfl⟩:=a7
 have aq:Rows.uptoBulk (DataW.lit (H:=H) (.string s.data.toList))=s.size+1:=by rw [KY,VS]
 rw [aq] at ah
 obtain⟨ar,au,xs,av,aw⟩:=Agn (y:=(c,N)) al (by show Rows.uptoBulk c<=_;omega)
 obtain⟨ax,ay,ys,az,b5⟩:=Akf (y:=(T,r)) ao
 have bu:2 * j<=Rows.uptoBulk c:=au
 have bw:k<=Rows.uptoBulk T:=ay
 obtain⟨L,b6,m⟩:=Ahl hM D
 obtain⟨l,S,b7,a8⟩:=Al6 D L.table b6 m ((g.map (·.block)).toList++(Q.map (·.block)).toList) fun x Z=>by
  simp only [List.mem_append,Option.mem_toList,Option.map_eq_some_iff] at Z
  rcases Z with⟨b8,rfl,rfl⟩|⟨b8,rfl,rfl⟩
  ·exact FM Tryz.underlying22 a1
  ·exact FM Tryz.underlying23 a6
 have b9:∀B,W.heap.size<=B.heap.size->(∀i,i<W.heap.size->B.heap[i]? = W.heap[i]?)->(CH W B->Rows.piecesSpec.post a Tryz.prog Tryz.f3 false true false false W #[.slice g j sc,.string s,.slice Q k lc] (.bool true) B):=by
  intro B bx n e
  have same:∀x:MemPlace,x.block<W.heap.size->W.sameAt B x:=fun x Z=>by
   cases x with
   | cell b o=>exact World.cell?_of_block (w:=W) (n b Z)
   | map b=>exact n b Z
  have p:Rows.piecesSpec.fn H ([c,DataW.lit (.string s.data.toList),T] ++ []) = { results:=[.lit (.bool true)],args:=[c,DataW.lit (.string s.data.toList),T] }:=rfl
  have O:∀{t} {v} {f} {q},(t=22∨t=9∨t=23)->DataW.Trod a Tryz.prog W 0 (fun _=>true) true t v f q->(∀x∈q,x.block<W.heap.size)->DataW.Trod a Tryz.prog B 0 (fun x=>decide (x<W.heap.size)) true t v f q:=fun m V K=>by
   rcases m with rfl|rfl|rfl
   ·exact Nro
   ·exact Nro
   ·exact Nro
  have k0:=O (.inl rfl) ai fun x Z=>Ig x (by simp [Z])
  have k1:=O (.inr (.inl rfl)) aj fun x Z=>by cases Z
  have k2:=O (.inr (.inr rfl)) ak fun x Z=>Ig x (by simp [Z])
  refine⟨_,_,_,[],N++([]++(r ++ [])),[],A,?_,?_,?_,⟨e.1,e.2,fun i hi=>?_⟩,fun h=>by cases h⟩
  ·rw [p];exact trodAll_mk1 (shut_bool Tryz.underlying4 _)
  ·rw [p];exact trodAll_cons_mk k0 (trodAll_cons_mk k1 (trodAll_cons_mk k2 trodAll_mk0))
  ·rw [p];rfl
  ·rw [n i hi]
   cases W.heap[i]? with
   | none=>rfl
   | some o=>cases o <;> simp
 intro f
 refine NQ (W:=W.at f) (post:=fun v J=>CH W J/\(CH W J->Rows.piecesSpec.post a Tryz.prog Tryz.f3 false true false false W #[.slice g j sc,.string s,.slice Q k lc] v J)) (l:=l) ⟨S.nod,S.row,S.g8,S.glob⟩ ?_ ⟨L.tabs,L.table,L.ml,L.rq1,L.rq2,L.rq3,L.rq5,L.rq4,L.rq6,L.rq7,L.an4,L.an6,L.an7,L.an1,L.an2,L.an3,L.an5⟩ (xs:=xs) (zs:=ys) ?_ av ar ?_ az ax Aa Aa Aa (fun b off x Z=>Aj5 D L.table (x:=x) ⟨Z.c0,Z.c1,Z.c2,Z.c3,Z.c4,Z.c5⟩) (fun b u=>a8 _ (by simp [u])) (fun b u=>a8 _ (by simp [u])) fun B hz ho e=>⟨e,b9 B hz ho⟩
 ·intro kind E
  obtain⟨ba,X,P,d⟩:=b7 kind E
  obtain⟨o,g4,g5⟩:=d.ex
  exact⟨ba,X,P,⟨o,g4,g5⟩⟩
 ·intro i x Z
  obtain⟨b,off,X,P,d⟩:=aw i x Z
  exact⟨b,off,X,⟨P.c0,P.c1,P.c2,P.c3,P.c4,P.c5⟩,d⟩
 ·intro i x Z
  obtain⟨b,off,X,P,d⟩:=b5 i x Z
  exact⟨b,off,X,P,d⟩
abbrev Yw:Array w8:=#[um su 0 0,x7 ⟨#[]⟩,um su 0 0]
def YD(d):laidMet qz Rows.piecesUptoRow.laid ((EM d).forCall (λ_ _=>0) ⟨#[],Yw,[]⟩).memory:=
 (LaidIn.of_run (l:=[("unicode/utf8.acceptRanges",Rows.laid_unicode_utf8_acceptRanges),("orchard/value.letters",Rows.laid_orchard_value_letters),("orchard/message.requests",Rows.laid_orchard_message_requests),("orchard/message.answers",Rows.laid_orchard_message_answers),("orchard/file.schemas",Rows.laid_orchard_file_schemas),("orchard/watch.tellings",Rows.laid_orchard_watch_tellings),("unicode/utf8.first",Rows.laid_unicode_utf8_first)]) [6,7,0,3,2,4,5,13,14,15] 8 Ab Ab Ab Ab).met
def Aly(d){H}(P:TypeId×Value->H):∃a,DataW.whole P Tryz.prog ((EM d).forCall (fun _ _=>0) ⟨#[],Yw,[]⟩).memory Tryz.f3.params.toList Rows.piecesSpec.vars false Yw.toList 8=some ([.nil,.lit (.string []),.nil],[],a):=
 ⟨[],Ab⟩
set_option maxRecDepth 100000 in
def Aho(e)(a:e.Started)(H)(P:TypeId×w8->H)(F) :
  ReturnsInLeavingWide {} checked e 3 .any ((vu Rows.piecesSpec).preRow P qz zb Rows.piecesUptoRow.domain o9 Rows.piecesUptoRow.laid) (((vu Rows.piecesSpec).at F).post P qz zb o9 tu o9 o9):=by
 have ⟨i,Z⟩:=Aly e P;refine Z9   own a func3
  (witness_row_atRef   o9 _ Yw rfl Ab Ab Ab
   (OpenSpec.preRow_of_cond 8 Z Ab (λk E=>by cases E;kernel_rfl) Ab (YD e))) ?_
 intro W b c R r d I h f g D;exact QH H P W b c R r d I h (f _ rfl) g D
