import Derived.Test.YtcbilgmfdgpomaaGreatDoorQ17
import Derived.Lib.LaidIn
import Derived.Deep.DeepWitnessRowRef
set_option maxRecDepth 8000
set_option linter.all false
open Go.Proofs.Tryz renaming prog → y7,checked → pz,f4 → oj
open Bool renaming false → sd,true → km
open Go.Proofs.YtcbilgmfdgpomaaGreatDoor.Rows renaming aloneSpec → uw
open Go.Lib.laidMet renaming reads → xd
open Option renaming some → lj,none → jh
open Go.Proofs.YtcbilgmfdgpomaaGreatDoor.Rows.OpenSpec renaming upto → pj
open Go.Value renaming okWide → ky,int → uu,string → pc,slice → qh,bool → gd
open Go renaming Value → uo,World → gk
open Go.Frame renaming enter → w8
open Go.Proofs.Tryz
def Xh7{p:Prop}(h:p:=by
 exact WideElems.Trod_stays Ab Ab (of_decide_eq_true Ab) hT (λx Z=>same x (K x Z)) (λx Z=>by simpa using K x Z)):p:=h
namespace Go.Proofs.YtcbilgmfdgpomaaGreatDoor
open Go.ChangeShapes Go.WideShapes Go.ChangeAt Go.RowKit Go.Pair Go.Conc
def own:ownKnob prog.godebug=jh:=Ab
noncomputable def Vz(os:Os):gk:=
 let w0:=World.holding y7 os ⟨#[],#[],[]⟩
 let put (h) (g) (cs:gY):Array Obj:=h.modify g fun
  | .cells _ t frozen=>.cells cs t frozen
  | o=>o
 let h0:=put w0.1 7 Fz
 let h1:=put h0 5 (Lib.firstTab.map λz=>Value.int .u8 z).toArray
 let h2:=put h1 6 ((List.range 16).flatMap λi=>[Value.int .u8 (Lib.accLo i),Value.int .u8 (Lib.accHi i)]).toArray
 let h3:=put h2 2 #[pc iG,pc ⟨#[40,116,98,56,56,52,41]⟩,pc ⟨#[40,116,98,116,56,56,52,41]⟩]
 let h4:=put h3 0 #[pc iG,pc iG,pc iG,pc iG,pc ⟨#[40,52,52,116,98,41]⟩,pc ⟨#[40,52,52,116,98,116,41]⟩,pc iG,pc ⟨#[40,52,52,116,52,41]⟩,pc ⟨#[40,52,52,116,52,41]⟩,pc iG,pc ⟨#[40,52,52,116,98,52,41]⟩,pc ⟨#[40,52,52,116,98,52,41]⟩,pc iG,pc ⟨#[40,52,52,116,63,41]⟩,pc ⟨#[40,52,52,116,63,41]⟩,pc iG,pc ⟨#[40,52,52,116,63,41]⟩,pc ⟨#[40,52,52,116,63,41]⟩,pc iG,pc ⟨#[40,52,52,116,63,41]⟩,pc ⟨#[40,52,52,116,63,41]⟩,pc iG,pc ⟨#[40,52,52,41]⟩,pc ⟨#[40,52,52,41]⟩]
 let h5:=put h4 3 #[pc iG,pc iG,pc iG,pc iG,pc ⟨#[40,52,56,52,116,41]⟩,pc ⟨#[40,52,56,52,116,41]⟩,pc iG,pc ⟨#[40,52,56,52,41]⟩,pc ⟨#[40,52,56,52,41]⟩,pc iG,pc ⟨#[40,52,56,52,40,56,56,52,52,41,41]⟩,pc ⟨#[40,52,56,52,40,56,56,52,52,41,41]⟩,pc iG,pc ⟨#[40,52,56,52,98,40,56,56,52,52,41,41]⟩,pc ⟨#[40,52,56,52,98,116,40,56,56,52,52,41,41]⟩,pc iG,pc ⟨#[40,52,56,52,40,56,56,52,52,41,41]⟩,pc ⟨#[40,52,56,52,40,56,56,52,52,41,41]⟩,pc iG,pc ⟨#[40,52,56,52,91,116,93,41]⟩,pc ⟨#[40,52,56,52,91,116,93,41]⟩,pc iG,pc ⟨#[40,52,56,52,41]⟩,pc ⟨#[40,52,56,52,41]⟩]
 let h6:=put h5 4 #[qh jh 0 0,qh (lj ⟨13,0,jh⟩) 2 2,qh (lj ⟨14,0,jh⟩) 3 3,qh (lj ⟨15,0,jh⟩) 1 1]
 {w0 with heap:=((h6.push (.cells #[uu .i64 0,gd sd,uu .i64 1,uu .i64 1,gd km,uu .i64 4] 288)).push (.cells #[uu .i64 0,gd sd,uu .i64 2,uu .i64 1,gd sd,uu .i64 2,uu .i64 1,gd km,uu .i64 4] 288)).push (.cells #[uu .i64 0,gd sd,uu .i64 3] 288) }
section
variable {H:Type} {P:TypeId×uo->H}
def Z5{a C B f u}{s:OpenSpec}{F m b p d h q}(own:ownKnob C.prog.godebug=jh)(o:B.Started)(T:C.prog.funcs[f]?=lj u)(x:∃(w:gk)(e:Tape)(i:Input),w.os=B/\(w.forCall e i).Shaped C.prog/\i.vars = []/\Input.okWide C.prog (w.forCall e i) .any w.heap.size f i /\
   s.preRow P C.prog u m b q (w.forCall e i).memory i.args/\a.holds C.prog (lone (w8 C.prog f i.args .normal) [] (w.forCall e i)))(y:∀W z (c:gY) R r g,
   (∀(j:Nat) t v,u.params[j]?=lj t->c[j]?=lj v->ky C.prog W .any z t v)->DataW.Whole P C.prog u.params.toList s.vars b W c.toList R r g->(∀k,s.cond=lj k->k H (R++r)=km)->laidMetH C.prog q W->W.ShapedOpen C.prog ->
   EA C.prog (λv J=>BV W J->(s.at F).post P C.prog u b p d h W c v J) (λ_=>False) (G (w8 C.prog f c .normal) []) W) :
  ReturnsInLeavingWide a C B f .any (s.preRow P C.prog u m b q) ((s.at F).post P C.prog u b p d h):=by
 refine returnsInLeavingWide_of_good own o x λw e i _ A _ l L _=>?_;have ⟨_,_,_,O,E,_,_,_,_,I⟩:=l;obtain rfl:O=u:=aB (E.symm.trans T);have ⟨⟨Q,K⟩,a1⟩:=L;have ⟨R,r,g,U,a6,M⟩:=OpenSpec.pre_parts Q;obtain⟨N,S,a7,V,X,Y,n,D,v,rfl,Q,Z⟩:=(y _ w.heap.size i.args R r g I (DataW.Whole.of_heap  Ac U) M (K.of_heap  Ac) A).run;exact⟨N,S,_,V,X,Y,n,D,v,rfl,ChangeSpec.post_blind (Q.2 Q.1),Z⟩
end
def Ahe{W}(b:laidMet y7 Rows.aloneUptoRow.laid W)(D:W.ShapedOpen y7):Laid W/\W.cell? ⟨4,0,jh⟩=lj (qh jh 0 0)/\∀kind,kind=1∨kind=2∨kind=3->∃g,Pm W kind g (TT kind):=by
 have R:=xd b (.tail _ (.tail _ (.head _)));have B:=xd b (.tail _ (.tail _ (.tail _ (.head _))));have c:=xd b (.tail _ (.tail _ (.tail _ (.tail _ (.tail _ (.head _))))));obtain⟨⟨X,P⟩,⟨o,O⟩,d,a⟩:=BJ c;obtain⟨m,L⟩:=Ak7 D;have V:=BD (xd b (.tail _ (.head _)));have I:8<=W.1.size:=by
  obtain⟨_,_,M⟩:=V;have:=ltOf M;omega
 refine⟨{ tabs:=CX (xd b (.tail _ (.tail _ (.tail _ (.tail _ (.tail _ (.tail _ (.head _)))))))) (xd b (.head _)) I,table:=V,ml:=⟨m,L⟩,rq1:=Ek R (i:=1) (j:=1) Aa Aa _ rfl rfl rfl,rq2:=Ek R (i:=2) (j:=1) Aa Aa _ rfl rfl rfl,rq3:=Ek R (i:=3) (j:=1) Aa Aa _ rfl rfl rfl,rq4:=Ek R (i:=4) (j:=1) Aa Aa _ rfl rfl rfl,rq5:=Ek R (i:=5) (j:=1) Aa Aa _ rfl rfl rfl,rq6:=Ek R (i:=6) (j:=1) Aa Aa _ rfl rfl rfl,rq7:=Ek R (i:=7) (j:=1) Aa Aa _ rfl rfl rfl,an1:=Er B (i:=1) (j:=1) Aa Aa _ rfl rfl rfl,an2:=Er B (i:=2) (j:=1) Aa Aa _ rfl rfl rfl,an3:=Er B (i:=3) (j:=1) Aa Aa _ rfl rfl rfl,an4:=Er B (i:=4) (j:=1) Aa Aa _ rfl rfl rfl,an5:=Er B (i:=5) (j:=1) Aa Aa _ rfl rfl rfl,an6:=Er B (i:=6) (j:=1) Aa Aa _ rfl rfl rfl,an7:=Er B (i:=7) (j:=1) Aa Aa _ rfl rfl rfl },BH c,λkind E=>?_⟩;rcases E with rfl|rfl|rfl
 ·exact⟨X,P⟩
 ·exact⟨o,O⟩
 ·exact⟨d,a⟩
def VF(W:gk)(gs:hZ):List Nat:=gs.foldl Rt (List.range 8)
def Ahp(r:hZ):∀l:List Nat,l.Nodup->(r.foldl Rt l).Nodup:=by
 induction r with
 | nil=>exact λl h=>h
 | cons g r O=>exact λl h=>O _ (Agf h)
def Aeg(r:hZ):∀l(x:Nat),x∈l->x∈r.foldl Rt l:=by
 induction r with
 | nil=>grind
 | cons g r O=>exact λl x h=>O _ x (Aa6 h)
def Aho(r:hZ):∀l(i y:Nat),l[i]?=lj y->(r.foldl Rt l)[i]?=lj y:=by
 induction r with
 | nil=>grind
 | cons g r O=>exact λl i y h=>O _ i y (Age h)
def Ux(r:hZ):∀l(x:Nat),x∈r->x∈r.foldl Rt l:=by
 induction r with
 | nil=>grind
 | cons g r O=>
  intro l x h;rcases bH.1 h with rfl|h
  ·exact Aeg r _ _ Aa5
  ·exact O _ x h
def Aef(r:hZ):∀l(x:Nat),x∈r.foldl Rt l->x∈l∨x∈r:=by
 induction r with
 | nil=>grind
 | cons g r O=>
  intro l x h;rcases O _ x h with h|h
  ·rcases Aa4 h with h|rfl
   ·exact .inl h
   grind
  grind
def FC{W b t e a n c}(r:prog.underlying t=lj (.slice e))(h:ky y7 W .any b t (qh (lj a) n c)):∃cs S d,W.1[a.block]?=lj (.cells cs S d):=by
 unfold ky at h;unfold Cell.okWide at h;unfold Cell.ok at h;rw[r]at h;have ⟨_,_,_,_,row,f,s,_⟩:=h;unfold World.shape? at s
 grind
def Alv{W}(D:W.ShapedOpen y7)(V:Table W)(u:W.cell? ⟨4,0,jh⟩=lj (qh jh 0 0))(R:∀kind,kind=1∨kind=2∨kind=3->∃v,Pm W kind v (TT kind))(r:hZ)(w:∀x∈r,∃c t f,W.1[x]?=lj (.cells c t f)):∃l,X3 W l/\KC W l/\∀x∈r,x∈l:=by
 obtain⟨X,P⟩:=R 1 (.inl rfl);obtain⟨o,O⟩:=R 2 (.inr (.inl rfl));obtain⟨d,a⟩:=R 3 (.inr (.inr rfl));obtain⟨K,y,Q⟩:=P.ex;obtain⟨I,A,s⟩:=O.ex;obtain⟨H,n,U⟩:=a.ex;have F:=Q 0 _ rfl;have z:=s 0 _ rfl;have G:=U 0 _ rfl;have i:X∈VF W (X :: o :: d :: r):=Ux _ _ _ Ad;have g:o∈VF W (X :: o :: d :: r):=Ux _ _ _ Ad;have k:d∈VF W (X :: o :: d :: r):=Ux _ _ _ Ad;refine⟨VF W (X :: o :: d :: r),⟨Ahp _ _ List.nodup_range,λx Z=>?_,λm p=>Aho _ _ _ _ (by simp[p]),λm c t f p M j x Z=>?_⟩,λkind E=>?_,λx Z=>Ux _ _ _ (by simp[Z])⟩
 ·rcases Aef _ _ _ Z with h|h
  ·obtain⟨c,t,f,C,_⟩:=DY D V (List.mem_range.1 h);exact⟨_,_,_,C⟩
  ·simp only[bH]at h;rcases h with rfl|rfl|rfl|h
   ·obtain⟨c,t,f,C,_⟩:=Ts F.1;exact⟨_,_,_,C⟩
   ·obtain⟨c,t,f,C,_⟩:=Ts z.1;exact⟨_,_,_,C⟩
   ·obtain⟨c,t,f,C,_⟩:=Ts G.1;exact⟨_,_,_,C⟩
   ·exact w x h
 ·obtain⟨B,L,S,C,J,T⟩:=DY D V p;rw[M]at C;cases C;by_cases q:m=4
  ·subst q;obtain⟨N,_⟩:=T rfl;have Y:j<4:=by rw[←N];exact(aG.1 Z).1
   have:j=0∨j=1∨j=2∨j=3:=Aa;rcases this with rfl|rfl|rfl|rfl
   ·rw[Hs M u]at Z;cases Z;exact .inr ⟨_,_,_,rfl,λb e=>HL⟩
   ·rw[Hs M y]at Z;cases Z;exact .inr ⟨_,_,_,rfl,λb e=>by cases e;exact i⟩
   ·rw[Hs M A]at Z;cases Z;exact .inr ⟨_,_,_,rfl,λb e=>by cases e;exact g⟩
   ·rw[Hs M n]at Z;cases Z;exact .inr ⟨_,_,_,rfl,λb e=>by cases e;exact k⟩
  ·exact .inl (J q j x Z)
 ·rcases E with rfl|rfl|rfl
  ·exact⟨X,i,(JH D V (x:=(0,sd,1)) F.1 F.2.1 F.2.2),P⟩
  ·exact⟨o,g,(JH D V (x:=(0,sd,2)) z.1 z.2.1 z.2.2),O⟩
  ·exact⟨d,k,(JH D V (x:=(0,sd,3)) G.1 G.2.1 G.2.2),a⟩
set_option maxRecDepth 100000 in
theorem PZ(H:Type)(a:TypeId×Value->H)(W:World)(aa:Nat)(args:Array Value)(R y:List (DataW H))(ab:List MemPlace)(I:∀(z:Nat) t v,Tryz.f4.params[z]?=some t->args[z]?=some v->Value.okWide Tryz.prog W .any aa t v)(A:DataW.Whole a Tryz.prog Tryz.f4.params.toList Rows.aloneSpec.vars false W args.toList R y ab)(E:Rows.uptoSmall H (R++y)=true)(hL:laidMetH Tryz.prog Rows.aloneUptoRow.laid W)(D:W.ShapedOpen Tryz.prog) :
  EA Tryz.prog (fun v J=>BV W J->Rows.aloneSpec.post a Tryz.prog Tryz.f4 false true false false W args v J) (fun _=>False) (G (Frame.enter Tryz.prog 4 args .normal) []) W:=by
 have hM:laidMet Tryz.prog Rows.aloneUptoRow.laid W:=hL
 have C:=A
 obtain⟨ad,bb,F,hV,rfl,bc,bd⟩:=A
 have M:DataW.TrodAll a Tryz.prog W 0 (fun _=>true) true Tryz.f4.params.toList args.toList R ad:=F
 rw [Tryz.params4] at M I
 obtain⟨T,bf,c,bg,N,q0,bh,rfl,rfl,U,r0⟩:=trodAll_cons M
 obtain⟨V,bj,d,bk,m,q1,ae,rfl,rfl,Y,r1⟩:=trodAll_cons r0
 obtain⟨v2,bm,d2,bn,p2,q2,af,rfl,rfl,h2,r2⟩:=trodAll_cons r1
 obtain⟨rfl,rfl,rfl⟩:=trodAll_nil r2
 subst ae af
 obtain rfl:args=#[T,V,v2]:=by cases args;simp_all
 obtain⟨rfl,rfl⟩:=trodVars_none hV
 have Ib:∀x∈N++(m++(p2 ++ [])),x.block<W.heap.size:=fun x Z=>by simpa using C.lt x Aao
 have ah:Rows.uptoBulk c+Rows.uptoBulk d+Rows.uptoBulk d2<=1048576:=by
  have h:Rows.uptoBulkAll ([c,d,d2] ++ [])<=1048576:=of_decide_eq_true E
  simp only [List.append_nil,Rows.uptoBulkAll] at h
  omega
 have ai:=U
 have aj:=Y
 have ak:=h2
 clear F
 have a1:=I 0 22 T rfl rfl
 have a6:=I 1 22 V rfl rfl
 obtain⟨j,k,sc,rfl⟩:=okWide_slice Tryz.underlying22 a1
 obtain⟨Q,n,lc,rfl⟩:=okWide_slice Tryz.underlying22 a6
 obtain⟨bo,al⟩:=U
 obtain⟨bq,an⟩:=Y
 obtain⟨br,ao⟩:=h2
 obtain⟨s,rfl⟩:=okWide_string Tryz.underlying9 (I 2 9 v2 rfl rfl)
 obtain⟨s',e2,a7,_⟩:=DataW.trod_string Tryz.underlying9 ao
 simp [Value.cells] at e2
 subst e2
 simp only [Prod.mk.injEq] at a7
 obtain⟨rfl,rfl⟩:=a7
 have aq:Rows.uptoBulk (DataW.lit (H:=H) (.string s.data.toList))=s.size+1:=by rw [KI,VO]
 rw [aq] at ah
 obtain⟨ar,au,xs,av,aw⟩:=TZ (y:=(c,N)) al (by show Rows.uptoBulk c<=_;omega)
 obtain⟨ax,ay,ys,az,b5⟩:=TZ (y:=(d,m)) an (by show Rows.uptoBulk d<=_;omega)
 have bu:2 * k<=Rows.uptoBulk c:=au
 have bw:2 * n<=Rows.uptoBulk d:=ay
 obtain⟨L,b6,p⟩:=Ahe hM D
 obtain⟨l,S,b7,a8⟩:=Alv D L.table b6 p ((j.map (·.block)).toList++(Q.map (·.block)).toList) fun x Z=>by
  simp only [List.mem_append,Option.mem_toList,Option.map_eq_some_iff] at Z
  rcases Z with⟨b8,rfl,rfl⟩|⟨b8,rfl,rfl⟩
  ·exact FC Tryz.underlying22 a1
  ·exact FC Tryz.underlying22 a6
 have b9:∀B,W.heap.size<=B.heap.size->(∀i,i<W.heap.size->B.heap[i]?=W.heap[i]?)->(BV W B->Rows.aloneSpec.post a Tryz.prog Tryz.f4 false true false false W #[.slice j k sc,.slice Q n lc,.string s] (.bool true) B):=by
  intro B bx q f
  have same:∀x:MemPlace,x.block<W.heap.size->W.sameAt B x:=fun x Z=>by
   cases x with
   | cell b o=>exact World.cell?_of_block (w:=W) (q b Z)
   | map b=>exact q b Z
  have r:Rows.aloneSpec.fn H ([c,d,DataW.lit (.string s.data.toList)] ++ []) = { results:=[.lit (.bool true)],args:=[c,d,DataW.lit (.string s.data.toList)] }:=rfl
  have O:∀{t:TypeId} {v:Value} {g:DataW H} {u:List MemPlace},(t=22∨t=9)->DataW.Trod a Tryz.prog W 0 (fun _=>true) true t v g u->(∀x∈u,x.block<W.heap.size)->DataW.Trod a Tryz.prog B 0 (fun x=>decide (x<W.heap.size)) true t v g u:=fun p hT K=>by
   rcases p with rfl|rfl
   ·exact Xh7
   ·exact Xh7
  have k0:=O (.inl rfl) ai fun x Z=>Ib x (by simp [Z])
  have k1:=O (.inl rfl) aj fun x Z=>Ib x (by simp [Z])
  have k2:=O (.inr rfl) ak fun x Z=>by cases Z
  refine⟨_,_,_,[],N++(m++([] ++ [])),[],C,?_,?_,?_,⟨f.1,f.2,fun i hi=>?_⟩,fun h=>by cases h⟩
  ·rw [r];exact trodAll_mk1 (shut_bool Tryz.underlying4 _)
  ·rw [r];exact trodAll_cons_mk k0 (trodAll_cons_mk k1 (trodAll_cons_mk k2 trodAll_mk0))
  ·rw [r];rfl
  ·rw [q i hi]
   cases W.heap[i]? with
   | none=>rfl
   | some o=>cases o <;> simp
 intro g
 refine PH (W:=W.at g) (post:=fun v J=>BV W J/\(BV W J->Rows.aloneSpec.post a Tryz.prog Tryz.f4 false true false false W #[.slice j k sc,.slice Q n lc,.string s] v J)) (l:=l) ⟨S.nod,S.row,S.g8,S.glob⟩ ?_ ⟨L.tabs,L.table,L.ml,L.rq1,L.rq2,L.rq3,L.rq5,L.rq4,L.rq6,L.rq7,L.an4,L.an6,L.an7,L.an1,L.an2,L.an3,L.an5⟩ (xs:=xs) (ys:=ys) ?_ av ar ?_ az ax Aa Aa (fun b off x Z=>Ajz D L.table (x:=x) ⟨Z.c0,Z.c1,Z.c2,Z.c3,Z.c4,Z.c5⟩) (fun b w=>a8 _ (by simp [w])) (fun b w=>a8 _ (by simp [w])) fun B hz ho f=>⟨f,b9 B hz ho⟩
 ·intro kind E
  obtain⟨ba,X,P,e⟩:=b7 kind E
  obtain⟨o,g4,g5⟩:=e.ex
  exact⟨ba,X,P,⟨o,g4,g5⟩⟩
 ·intro i x Z
  obtain⟨b,off,X,P,e⟩:=aw i x Z
  exact⟨b,off,X,⟨P.c0,P.c1,P.c2,P.c3,P.c4,P.c5⟩,e⟩
 ·intro i x Z
  obtain⟨b,off,X,P,e⟩:=b5 i x Z
  exact⟨b,off,X,⟨P.c0,P.c1,P.c2,P.c3,P.c4,P.c5⟩,e⟩
abbrev II:Array uo:=#[qh jh 0 0,qh jh 0 0,pc iG]
def XX(d):laidMet y7 Rows.aloneUptoRow.laid ((Vz d).forCall (λ_ _=>0) ⟨#[],II,[]⟩).memory:=
 (LaidIn.of_run (l:=[("unicode/utf8.acceptRanges",Rows.laid_unicode_utf8_acceptRanges),("orchard/value.letters",Rows.laid_orchard_value_letters),("orchard/message.requests",Rows.laid_orchard_message_requests),("orchard/message.answers",Rows.laid_orchard_message_answers),("orchard/file.schemas",Rows.laid_orchard_file_schemas),("orchard/watch.tellings",Rows.laid_orchard_watch_tellings),("unicode/utf8.first",Rows.laid_unicode_utf8_first)]) [6,7,0,3,2,4,5,13,14,15] 8 Ab Ab Ab Ab).met
def Alm(d){H}(P:TypeId×uo->H):∃a,DataW.whole P y7 ((Vz d).forCall (λ_ _=>0) ⟨#[],II,[]⟩).memory f4.params.toList Rows.aloneSpec.vars sd II.toList 8=lj ([.nil,.nil,.lit (.string [])],[],a):=
 ⟨[],Ab⟩
set_option maxRecDepth 100000 in
def Ahh(e)(a:e.Started)(H)(enc:TypeId×uo->H)(F) :
  ReturnsInLeavingWide {} pz e 4 .any ((pj uw).preRow enc y7 oj Rows.aloneUptoRow.domain sd Rows.aloneUptoRow.laid) (((pj uw).at F).post enc y7 oj sd km sd sd):=by
 obtain⟨i,Z⟩:=Alm e enc;refine Z5 (C:=pz) (s:=pj uw) own a func4
  (witness_row_atRef (enc:=enc) (C:=pz) sd (Vz e) II rfl Ab Ab Ab
   (OpenSpec.preRow_of_cond 8 Z Ab (λk E=>by cases E;kernel_rfl) Ab (XX e))) ?_
 intro W b c R r d I h f g D;exact PZ H enc W b c R r d I h (f _ rfl) g D
end Go.Proofs.YtcbilgmfdgpomaaGreatDoor
